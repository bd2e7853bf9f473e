package space_test

import (
	"math/big"
	"math/rand"
	"testing"

	"simile/api"
	"simile/zint"
)

// table is rows of math/big.
type table [][]*big.Rat

// large tells what an integer is to math/big.
func large(a api.Int) *big.Int {
	text := make([]byte, 0, 4*len(a.Mag))
	for i := len(a.Mag) - 1; i >= 0; i-- {
		text = append(text, byte(a.Mag[i]>>24), byte(a.Mag[i]>>16), byte(a.Mag[i]>>8), byte(a.Mag[i]))
	}
	out := new(big.Int).SetBytes(text)
	if a.Neg {
		out.Neg(out)
	}
	return out
}

func list(den api.Int, rows [][]api.Int) table {
	out := make(table, len(rows))
	for i, row := range rows {
		out[i] = make([]*big.Rat, len(row))
		for k, x := range row {
			out[i][k] = new(big.Rat).SetFrac(large(x), large(den))
		}
	}
	return out
}

// rowsOf: vectors as rows.
func rowsOf(l ...api.Vec) table {
	var out table
	for _, v := range l {
		out = append(out, list(v.Den, [][]api.Int{v.Num})...)
	}
	return out
}

func vec(den int64, l ...int64) api.Vec {
	out := api.Vec{Den: zint.Of(den)}
	for _, n := range l {
		out.Num = append(out.Num, zint.Of(n))
	}
	return out
}

// of: a matrix by its integers, rows of c, over den.
func of(den int64, c int, l ...int64) api.Mat {
	out := api.Mat{Den: zint.Of(den)}
	for ; len(l) > 0; l = l[c:] {
		out.Num = append(out.Num, vec(1, l[:c]...).Num)
	}
	return out
}

// someVec tells a vector in any form.
func someVec(r *rand.Rand, n int) api.Vec {
	out := api.Vec{Den: api.Int{Neg: r.Intn(2) == 0, Mag: api.Nat{uint32(r.Intn(9) + 1), 0}}}
	for range n {
		out.Num = append(out.Num, api.Int{Neg: r.Intn(2) == 0, Mag: api.Nat{uint32(r.Intn(4) * r.Intn(2)), 0}})
	}
	return out
}

func some(r *rand.Rand, n, c int) api.Mat {
	out := api.Mat{Den: someVec(r, 0).Den}
	for range n {
		out.Num = append(out.Num, someVec(r, c).Num)
	}
	return out
}

// reduced: the rows that are not 0 of the reduced echelon form.
func reduced(a table) table {
	out := make(table, len(a))
	for i, row := range a {
		for _, x := range row {
			out[i] = append(out[i], new(big.Rat).Set(x))
		}
	}
	k := 0
	for c := 0; len(a) > 0 && c < len(a[0]); c++ {
		p := k
		for p < len(out) && out[p][c].Sign() == 0 {
			p++
		}
		if p == len(out) {
			continue
		}
		out[p], out[k] = out[k], out[p]
		unit := new(big.Rat).Inv(out[k][c])
		for _, x := range out[k] {
			x.Mul(x, unit)
		}
		for i := range out {
			f := new(big.Rat).Set(out[i][c])
			for j, x := range out[i] {
				if i != k {
					x.Sub(x, new(big.Rat).Mul(f, out[k][j]))
				}
			}
		}
		k++
	}
	return out[:k]
}

// normalInt: no noughts at the top, and no sign of 0.
func normalInt(a api.Int) bool {
	n := len(a.Mag)
	return n == 0 && !a.Neg || n > 0 && a.Mag[n-1] != 0
}

// want holds a space against the span of rows of n entries, and asks for the normal form.
func want(t *testing.T, what string, got api.Space, e api.Errno, n int, rows table) {
	t.Helper()
	w := reduced(rows)
	ok := e == api.OK && got.N == n && wantRows(got.Basis.Den, got.Basis.Num, w)
	if !ok {
		t.Errorf("%s: %v, %d, want %d, %v", what, got, e, n, w)
	}
}

// wantRows: are they these, and normal?
func wantRows(den api.Int, num [][]api.Int, w table) bool {
	common := large(den)
	if len(num) != len(w) || common.Sign() <= 0 || !normalInt(den) {
		return false
	}
	for i := range w {
		if len(num[i]) != len(w[i]) {
			return false
		}
		for k, x := range num[i] {
			common.GCD(nil, nil, common, new(big.Int).Abs(large(x)))
			if !normalInt(x) || new(big.Rat).SetFrac(large(x), large(den)).Cmp(w[i][k]) != 0 {
				return false
			}
		}
	}
	return common.Cmp(big.NewInt(1)) == 0
}

// fault asks for an error and nothing beside it.
func fault(t *testing.T, what string, e, w api.Errno, beside ...int) {
	t.Helper()
	if e != w {
		t.Errorf("%s: error %d, want %d", what, e, w)
	}
	for _, n := range beside {
		if n != 0 {
			t.Errorf("%s: something beside an error", what)
		}
	}
}

// size: how much there is of a space; 0 of the zero value alone.
func size(s api.Space) int { return s.N + len(s.Basis.Num) + len(s.Basis.Den.Mag) }
