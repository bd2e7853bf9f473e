package bareiss_test

import (
	"math/big"
	"math/rand"
	"testing"

	"simile/api"
	"simile/zint"
)

// table is rows of math/big.
type table [][]*big.Rat

// large tells what an integer is to math/big.
func large(a api.Int) *big.Int {
	text := make([]byte, 0, 4*len(a.Mag))
	for i := len(a.Mag) - 1; i >= 0; i-- {
		text = append(text, byte(a.Mag[i]>>24), byte(a.Mag[i]>>16), byte(a.Mag[i]>>8), byte(a.Mag[i]))
	}
	out := new(big.Int).SetBytes(text)
	if a.Neg {
		out.Neg(out)
	}
	return out
}

func broken(num, den api.Int) *big.Rat { return new(big.Rat).SetFrac(large(num), large(den)) }

func list(m api.Mat) table {
	out := make(table, len(m.Num))
	for i, row := range m.Num {
		out[i] = make([]*big.Rat, len(row))
		for k, x := range row {
			out[i][k] = broken(x, m.Den)
		}
	}
	return out
}

func listVec(v api.Vec) []*big.Rat { return list(api.Mat{Den: v.Den, Num: [][]api.Int{v.Num}})[0] }

// of: a matrix by its integers, rows of c, over den.
func of(den int64, c int, l ...int64) api.Mat {
	out := api.Mat{Den: zint.Of(den)}
	for ; len(l) > 0; l = l[c:] {
		var row []api.Int
		for _, n := range l[:c] {
			row = append(row, zint.Of(n))
		}
		out.Num = append(out.Num, row)
	}
	return out
}

func vec(den int64, l ...int64) api.Vec {
	out := api.Vec{Den: zint.Of(den)}
	for _, n := range l {
		out.Num = append(out.Num, zint.Of(n))
	}
	return out
}

// hollow: r rows of nothing.
func hollow(r int) api.Mat { return api.Mat{Den: zint.Of(-3), Num: make([][]api.Int, r)} }

// some tells a matrix of a size, in any form, often of a low rank.
func some(r *rand.Rand, rows, columns int) api.Mat {
	out := api.Mat{Den: api.Int{Neg: r.Intn(2) == 0, Mag: api.Nat{uint32(r.Intn(30) + 1), 0}}}
	kind := r.Intn(4)
	for i := range rows {
		row := make([]api.Int, columns)
		for k := range row {
			row[k] = api.Int{Neg: r.Intn(2) == 0, Mag: api.Nat{uint32(r.Intn(5) * r.Intn(2)), 0}}
			if kind == 0 {
				row[k].Mag = api.Nat{r.Uint32(), r.Uint32()}
			}
		}
		if kind == 1 && i > 0 && r.Intn(3) > 0 {
			c := zint.Of(int64(r.Intn(5) - 2))
			for k := range row {
				row[k] = zint.Mul(c, out.Num[r.Intn(i)][k])
			}
		}
		if kind == 2 && i > 0 && r.Intn(2) > 0 {
			copy(row, out.Num[0])
		}
		out.Num = append(out.Num, row)
	}
	return out
}

// sizes tells a number of rows and one of columns; of no rows it is 0.
func sizes(r *rand.Rand) (int, int) {
	n := r.Intn(6)
	if n == 0 {
		return 0, 0
	}
	return n, r.Intn(6)
}

// normalInt: no noughts at the top, and no sign of 0.
func normalInt(a api.Int) bool {
	n := len(a.Mag)
	return n == 0 && !a.Neg || n > 0 && a.Mag[n-1] != 0
}

// want holds an answer against what it must be, and asks for the normal form.
func want(t *testing.T, what string, got api.Mat, e api.Errno, w table) {
	t.Helper()
	common := large(got.Den)
	ok := e == api.OK && len(got.Num) == len(w) && common.Sign() > 0 && normalInt(got.Den)
	for i := 0; ok && i < len(w); i++ {
		ok = len(got.Num[i]) == len(w[i])
		for k := 0; ok && k < len(w[i]); k++ {
			x := got.Num[i][k]
			common.GCD(nil, nil, common, new(big.Int).Abs(large(x)))
			ok = normalInt(x) && broken(x, got.Den).Cmp(w[i][k]) == 0
		}
	}
	if !ok || common.Cmp(big.NewInt(1)) != 0 {
		t.Errorf("%s: %v, %d, want %v", what, got, e, w)
	}
}

func wantVec(t *testing.T, what string, got api.Vec, e api.Errno, w []*big.Rat) {
	t.Helper()
	want(t, what, api.Mat{Den: got.Den, Num: [][]api.Int{got.Num}}, e, table{w})
}

// wantRat is want of a fraction.
func wantRat(t *testing.T, what string, got api.Rat, e api.Errno, w *big.Rat) {
	t.Helper()
	if e != api.OK || large(got.Num).Cmp(w.Num()) != 0 || large(got.Den).Cmp(w.Denom()) != 0 || !normalInt(got.Num) || !normalInt(got.Den) {
		t.Errorf("%s: %v, %d, want %v", what, got, e, w)
	}
}

// fault asks for an error and nothing beside it.
func fault(t *testing.T, what string, e, w api.Errno, beside ...int) {
	t.Helper()
	if e != w {
		t.Errorf("%s: error %d, want %d", what, e, w)
	}
	for _, n := range beside {
		if n != 0 {
			t.Errorf("%s: something beside an error", what)
		}
	}
}

func product(a, b table) table {
	out := make(table, len(a))
	for i := range a {
		for k := range b[0] {
			sum := new(big.Rat)
			for j, x := range a[i] {
				sum.Add(sum, new(big.Rat).Mul(x, b[j][k]))
			}
			out[i] = append(out[i], sum)
		}
	}
	return out
}

func turned(a table) table {
	var out table
	for k := range a[0] {
		var row []*big.Rat
		for i := range a {
			row = append(row, a[i][k])
		}
		out = append(out, row)
	}
	return out
}

// minor: the determinant by the first row.
func minor(a table) *big.Rat {
	if len(a) == 0 {
		return big.NewRat(1, 1)
	}
	sum := new(big.Rat)
	for c, x := range a[0] {
		if x.Sign() == 0 {
			continue
		}
		term := new(big.Rat).Mul(x, minor(without(a, 0, c)))
		if c%2 == 1 {
			term.Neg(term)
		}
		sum.Add(sum, term)
	}
	return sum
}

func without(a table, r, c int) table {
	var out table
	for i, row := range a {
		if i != r {
			out = append(out, append(append([]*big.Rat{}, row[:c]...), row[c+1:]...))
		}
	}
	return out
}

// reduced: the reduced echelon form and its pivots, by fractions.
func reduced(a table) (table, []int) {
	out := make(table, len(a))
	for i, row := range a {
		for _, x := range row {
			out[i] = append(out[i], new(big.Rat).Set(x))
		}
	}
	var pivots []int
	for c := 0; len(a) > 0 && c < len(a[0]); c++ {
		k := len(pivots)
		p := k
		for p < len(out) && out[p][c].Sign() == 0 {
			p++
		}
		if p == len(out) {
			continue
		}
		out[p], out[k] = out[k], out[p]
		unit := new(big.Rat).Inv(out[k][c])
		for _, x := range out[k] {
			x.Mul(x, unit)
		}
		for i := range out {
			f := new(big.Rat).Set(out[i][c])
			for j, x := range out[i] {
				if i != k {
					x.Sub(x, new(big.Rat).Mul(f, out[k][j]))
				}
			}
		}
		pivots = append(pivots, c)
	}
	return out, pivots
}
