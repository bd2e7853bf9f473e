package verify_test

import (
	"fmt"
	"math/big"
	"math/rand"
	"reflect"
	"testing"

	"simile/api"
	"simile/zint"
)

// table is rows of math/big.
type table [][]*big.Rat

// poly is a polynomial of math/big, without noughts at the top.
type poly []*big.Rat

// large tells what an integer is to math/big.
func large(a api.Int) *big.Int {
	text := make([]byte, 0, 4*len(a.Mag))
	for i := len(a.Mag) - 1; i >= 0; i-- {
		text = append(text, byte(a.Mag[i]>>24), byte(a.Mag[i]>>16), byte(a.Mag[i]>>8), byte(a.Mag[i]))
	}
	out := new(big.Int).SetBytes(text)
	if a.Neg {
		out.Neg(out)
	}
	return out
}

func broken(num, den api.Int) *big.Rat { return new(big.Rat).SetFrac(large(num), large(den)) }

func list(m api.Mat) table {
	out := make(table, len(m.Num))
	for i, row := range m.Num {
		out[i] = listVec(api.Vec{Den: m.Den, Num: row})
	}
	return out
}

func listVec(v api.Vec) []*big.Rat {
	out := make([]*big.Rat, len(v.Num))
	for k, x := range v.Num {
		out[k] = broken(x, v.Den)
	}
	return out
}

func listPoly(f api.Poly) poly {
	var out poly
	for _, c := range f {
		out = append(out, broken(c.Num, c.Den))
	}
	return trimmed(out)
}

func trimmed(f poly) poly {
	for len(f) > 0 && f[len(f)-1].Sign() == 0 {
		f = f[:len(f)-1]
	}
	return f
}

// of: a matrix by its integers, rows of c, over den.
func of(den int64, c int, l ...int64) api.Mat {
	out := api.Mat{Den: zint.Of(den)}
	for ; len(l) > 0; l = l[c:] {
		out.Num = append(out.Num, vec(1, l[:c]...).Num)
	}
	return out
}

// vec: a vector by its integers, over den.
func vec(den int64, l ...int64) api.Vec {
	out := api.Vec{Den: zint.Of(den)}
	for _, n := range l {
		out.Num = append(out.Num, zint.Of(n))
	}
	return out
}

// coeffs: a polynomial of integers, that of x^0 first.
func coeffs(l ...int64) api.Poly {
	var out api.Poly
	for _, n := range l {
		out = append(out, ratio(n, 1))
	}
	return out
}

func ratio(n, d int64) api.Rat { return api.Rat{Num: zint.Of(n), Den: zint.Of(d)} }

// someInt tells a small integer in any form.
func someInt(r *rand.Rand) api.Int {
	return api.Int{Neg: r.Intn(2) == 0, Mag: api.Nat{uint32(r.Intn(5) * r.Intn(2)), 0}}
}

// someDen tells a denominator in any form.
func someDen(r *rand.Rand) api.Int {
	return api.Int{Neg: r.Intn(2) == 0, Mag: api.Nat{uint32([]int{1, 1, 2, 6, 5}[r.Intn(5)]), 0}}
}

// some tells a matrix of a size, in any form.
func some(r *rand.Rand, n, c int) api.Mat {
	out := api.Mat{Den: someDen(r)}
	for range n {
		out.Num = append(out.Num, someVec(r, c).Num)
	}
	return out
}

func someVec(r *rand.Rand, n int) api.Vec {
	out := api.Vec{Den: someDen(r)}
	for range n {
		out.Num = append(out.Num, someInt(r))
	}
	return out
}

func somePoly(r *rand.Rand, most int) api.Poly {
	var out api.Poly
	for range r.Intn(most + 1) {
		out = append(out, api.Rat{Num: someInt(r), Den: someDen(r)})
	}
	return out
}

// bits: 2^n.
func bits(n int) api.Int {
	out := api.Int{Mag: make(api.Nat, n/32+1)}
	out.Mag[n/32] = 1 << (n % 32)
	return out
}

// normalInt: no noughts at the top, and no sign of 0.
func normalInt(a api.Int) bool {
	n := len(a.Mag)
	return n == 0 && !a.Neg || n > 0 && a.Mag[n-1] != 0
}

// sameRows: are they these, over den, and normal?
func sameRows(den api.Int, num [][]api.Int, w table) bool {
	common := large(den)
	if len(num) != len(w) || common.Sign() <= 0 || !normalInt(den) {
		return false
	}
	for i := range w {
		if len(num[i]) != len(w[i]) {
			return false
		}
		for k, x := range num[i] {
			common.GCD(nil, nil, common, new(big.Int).Abs(large(x)))
			if !normalInt(x) || broken(x, den).Cmp(w[i][k]) != 0 {
				return false
			}
		}
	}
	return common.Cmp(big.NewInt(1)) == 0
}

// wantMat holds an answer against what it must be, and asks for the normal form; so do the others.
func wantMat(t *testing.T, what string, got api.Mat, e api.Errno, w table) {
	t.Helper()
	if e != api.OK || !sameRows(got.Den, got.Num, w) {
		t.Errorf("%s: %v, %d, want %v", what, got, e, w)
	}
}

func wantVec(t *testing.T, what string, got api.Vec, e api.Errno, w []*big.Rat) {
	t.Helper()
	if e != api.OK || !sameRows(got.Den, [][]api.Int{got.Num}, table{w}) {
		t.Errorf("%s: %v, %d, want %v", what, got, e, w)
	}
}

func normalRat(a api.Rat) bool {
	if !normalInt(a.Num) || !normalInt(a.Den) || len(a.Den.Mag) == 0 {
		return false
	}
	q := broken(a.Num, a.Den)
	return q.Num().Cmp(large(a.Num)) == 0 && q.Denom().Cmp(large(a.Den)) == 0
}

func wantRat(t *testing.T, what string, got api.Rat, e api.Errno, w *big.Rat) {
	t.Helper()
	if e != api.OK || !normalRat(got) || broken(got.Num, got.Den).Cmp(w) != 0 {
		t.Errorf("%s: %v, %d, want %v", what, got, e, w)
	}
}

func wantPoly(t *testing.T, what string, got api.Poly, e api.Errno, w poly) {
	t.Helper()
	ok := e == api.OK && len(got) == len(w)
	for i := 0; ok && i < len(w); i++ {
		ok = normalRat(got[i]) && broken(got[i].Num, got[i].Den).Cmp(w[i]) == 0
	}
	if !ok {
		t.Errorf("%s: %v, %d, want %v", what, got, e, w)
	}
}

// fault asks for an error and the zero value beside it, whatever it is of.
func fault(t *testing.T, what string, e, w api.Errno, beside ...any) {
	t.Helper()
	if e != w {
		t.Errorf("%s: error %d, want %d", what, e, w)
	}
	for _, x := range beside {
		v := reflect.ValueOf(x)
		if x != nil && !v.IsZero() && !(v.Kind() == reflect.Slice && v.Len() == 0) {
			t.Errorf("%s: %v beside an error", what, x)
		}
	}
}

func times(a, b table) table {
	out := make(table, len(a))
	for i := range a {
		for k := range b[0] {
			sum := new(big.Rat)
			for j, x := range a[i] {
				sum.Add(sum, new(big.Rat).Mul(x, b[j][k]))
			}
			out[i] = append(out[i], sum)
		}
	}
	return out
}

// plus: a + c b.
func plus(a, b table, c *big.Rat) table {
	out := make(table, len(a))
	for i := range a {
		for k := range a[i] {
			out[i] = append(out[i], new(big.Rat).Add(a[i][k], new(big.Rat).Mul(c, b[i][k])))
		}
	}
	return out
}

func unit(n int) table {
	out := make(table, n)
	for i := range out {
		for k := range n {
			out[i] = append(out[i], big.NewRat(int64(max(0, 1-max(i-k, k-i))), 1))
		}
	}
	return out
}

func isZero(a table) bool {
	for _, row := range a {
		for _, x := range row {
			if x.Sign() != 0 {
				return false
			}
		}
	}
	return true
}

func turned(a table) table {
	out := make(table, 0)
	for k := range a[0] {
		var row []*big.Rat
		for i := range a {
			row = append(row, a[i][k])
		}
		out = append(out, row)
	}
	return out
}

// at: f at a matrix.
func at(f poly, m table) table {
	out := plus(m, m, big.NewRat(-1, 1))
	for i := len(f) - 1; i >= 0; i-- {
		out = plus(times(out, m), unit(len(m)), f[i])
	}
	return out
}

// reduced: the rows that are not 0 of the reduced echelon form.
func reduced(a table) table {
	out := make(table, len(a))
	for i, row := range a {
		for _, x := range row {
			out[i] = append(out[i], new(big.Rat).Set(x))
		}
	}
	k := 0
	for c := 0; len(a) > 0 && c < len(a[0]); c++ {
		p := k
		for p < len(out) && out[p][c].Sign() == 0 {
			p++
		}
		if p == len(out) {
			continue
		}
		out[p], out[k] = out[k], out[p]
		inverse := new(big.Rat).Inv(out[k][c])
		for _, x := range out[k] {
			x.Mul(x, inverse)
		}
		for i := range out {
			f := new(big.Rat).Set(out[i][c])
			for j, x := range out[i] {
				if i != k {
					x.Sub(x, new(big.Rat).Mul(f, out[k][j]))
				}
			}
		}
		k++
	}
	return out[:k]
}

func polyTimes(a, b poly) poly {
	if len(a) == 0 || len(b) == 0 {
		return nil
	}
	out := make(poly, len(a)+len(b)-1)
	for i := range out {
		out[i] = new(big.Rat)
	}
	for i, x := range a {
		for k, y := range b {
			out[i+k].Add(out[i+k], new(big.Rat).Mul(x, y))
		}
	}
	return trimmed(out)
}

// polyPlus: a + c b.
func polyPlus(a, b poly, c *big.Rat) poly {
	out := make(poly, max(len(a), len(b)))
	for i := range out {
		out[i] = new(big.Rat)
		if i < len(a) {
			out[i].Add(out[i], a[i])
		}
		if i < len(b) {
			out[i].Add(out[i], new(big.Rat).Mul(b[i], c))
		}
	}
	return trimmed(out)
}

// polyRest: what a leaves by b.
func polyRest(a, b poly) poly {
	for len(a) >= len(b) {
		digit := make(poly, len(a)-len(b)+1)
		for i := range digit {
			digit[i] = new(big.Rat)
		}
		digit[len(digit)-1] = new(big.Rat).Quo(a[len(a)-1], b[len(b)-1])
		a = polyPlus(a, polyTimes(digit, b), big.NewRat(-1, 1))
	}
	return a
}

// charOf: the characteristic polynomial, by Leverrier's way.
func charOf(m table) poly {
	n := len(m)
	out := make(poly, n+1)
	out[n] = big.NewRat(1, 1)
	sum := unit(n)
	for k := 1; k <= n; k++ {
		sum = times(m, sum)
		trace := new(big.Rat)
		for i := range n {
			trace.Sub(trace, sum[i][i])
		}
		out[n-k] = trace.Quo(trace, big.NewRat(int64(k), 1))
		sum = plus(sum, unit(n), out[n-k])
	}
	return out
}

// minimalOf: the minimal polynomial: the first power that is a sum of those below it.
func minimalOf(m table) poly {
	n := len(m)
	var flat table
	for power := unit(n); ; power = times(power, m) {
		var row []*big.Rat
		for _, l := range power {
			row = append(row, l...)
		}
		flat = append(flat, row)
		if d := len(flat) - 1; len(reduced(flat)) == d {
			system := reduced(turned(flat)) // its last column tells the sum
			out := make(poly, d+1)
			for i := range d {
				out[i] = new(big.Rat).Neg(system[i][d])
			}
			out[d] = big.NewRat(1, 1)
			return out
		}
	}
}

// span is the memory of a list, with its spare room.
type span struct{ from, to uintptr }

// spans tells all lists that a value holds.
func spans(v reflect.Value) []span {
	var out []span
	switch v.Kind() {
	case reflect.Slice:
		if v.Cap() > 0 {
			out = append(out, span{v.Pointer(), v.Pointer() + uintptr(v.Cap())*v.Type().Elem().Size()})
		}
		for i := range v.Len() {
			out = append(out, spans(v.Index(i))...)
		}
	case reflect.Struct:
		for i := range v.NumField() {
			out = append(out, spans(v.Field(i))...)
		}
	case reflect.Interface, reflect.Pointer:
		if !v.IsNil() {
			out = append(out, spans(v.Elem())...)
		}
	}
	return out
}

// rooms tells all that a value holds, with what stands in its lists' spare room.
func rooms(v reflect.Value) string {
	out := "("
	switch v.Kind() {
	case reflect.Slice:
		all := v.Slice(0, v.Cap())
		for i := range all.Len() {
			out += rooms(all.Index(i))
		}
	case reflect.Struct:
		for i := range v.NumField() {
			out += rooms(v.Field(i))
		}
	case reflect.Interface, reflect.Pointer:
		if !v.IsNil() {
			out += rooms(v.Elem())
		}
	default:
		out += fmt.Sprint(v)
	}
	return out + ")"
}

// memory asks a call to change nothing of what it is given, to answer new memory, no two lists of which are shared, and the same again.
func memory(t *testing.T, what string, given []any, call func() []any) {
	t.Helper()
	before := rooms(reflect.ValueOf(given))
	first := call()
	text := fmt.Sprint(first)
	answers, old := spans(reflect.ValueOf(first))[1:], spans(reflect.ValueOf(given))[1:]
	for i, a := range answers {
		for _, b := range append(answers[i+1:len(answers):len(answers)], old...) {
			if a.from < b.to && b.from < a.to {
				t.Errorf("%s: an answer shares memory", what)
				return
			}
		}
	}
	if rooms(reflect.ValueOf(given)) != before || fmt.Sprint(call()) != text {
		t.Errorf("%s changes what is handed in, or answers something else", what)
	}
}
