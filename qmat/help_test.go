package qmat_test

import (
	"math/big"
	"math/rand"
	"testing"

	"simile/api"
	"simile/zint"
)

// table is a matrix of math/big, with how many columns it has.
type table struct {
	rows    [][]*big.Rat
	columns int
}

// large tells what an integer is to math/big.
func large(a api.Int) *big.Int {
	text := make([]byte, 0, 4*len(a.Mag))
	for i := len(a.Mag) - 1; i >= 0; i-- {
		text = append(text, byte(a.Mag[i]>>24), byte(a.Mag[i]>>16), byte(a.Mag[i]>>8), byte(a.Mag[i]))
	}
	out := new(big.Int).SetBytes(text)
	if a.Neg {
		out.Neg(out)
	}
	return out
}

func broken(num, den api.Int) *big.Rat { return new(big.Rat).SetFrac(large(num), large(den)) }

// made: a table by its entries; of no rows it has no columns.
func made(r, c int, f func(i, k int) *big.Rat) table {
	out := table{columns: c}
	for i := range r {
		row := make([]*big.Rat, c)
		for k := range row {
			row[k] = f(i, k)
		}
		out.rows = append(out.rows, row)
	}
	if r == 0 {
		out.columns = 0
	}
	return out
}

func list(m api.Mat) table {
	c := 0
	if len(m.Num) > 0 {
		c = len(m.Num[0])
	}
	return made(len(m.Num), c, func(i, k int) *big.Rat { return broken(m.Num[i][k], m.Den) })
}

func listVec(v api.Vec) table { return list(api.Mat{Den: v.Den, Num: [][]api.Int{v.Num}}) }

// of: a matrix by its integers, rows of c, over den.
func of(den int64, c int, l ...int64) api.Mat {
	out := api.Mat{Den: zint.Of(den)}
	for len(l) > 0 {
		var row []api.Int
		for _, n := range l[:c] {
			row = append(row, zint.Of(n))
		}
		out.Num = append(out.Num, row)
		l = l[c:]
	}
	return out
}

// vec: a vector by its integers, over den.
func vec(den int64, l ...int64) api.Vec {
	out := api.Vec{Den: zint.Of(den)}
	for _, n := range l {
		out.Num = append(out.Num, zint.Of(n))
	}
	return out
}

// hollow: r rows of nothing.
func hollow(r int) api.Mat { return api.Mat{Den: zint.Of(-3), Num: make([][]api.Int, r)} }

// someInt tells an integer in any form.
func someInt(r *rand.Rand) api.Int {
	out := api.Int{Neg: r.Intn(2) == 0, Mag: api.Nat{uint32(r.Intn(13)), 0}}
	if r.Intn(8) == 0 {
		out.Mag = api.Nat{r.Uint32(), r.Uint32()}
	}
	return out
}

// some tells a matrix of a size, in any form.
func some(r *rand.Rand, rows, columns int) api.Mat {
	out := api.Mat{Den: api.Int{Neg: r.Intn(2) == 0, Mag: api.Nat{uint32(r.Intn(30) + 1), 0}}}
	for range rows {
		row := make([]api.Int, columns)
		for k := range row {
			row[k] = someInt(r)
		}
		out.Num = append(out.Num, row)
	}
	return out
}

func someVec(r *rand.Rand, n int) api.Vec {
	m := some(r, 1, n)
	return api.Vec{Den: m.Den, Num: m.Num[0]}
}

func someRat(r *rand.Rand) api.Rat {
	return api.Rat{Num: someInt(r), Den: api.Int{Neg: r.Intn(2) == 0, Mag: api.Nat{uint32(r.Intn(9) + 1)}}}
}

// normalInt: no noughts at the top, and no sign of 0.
func normalInt(a api.Int) bool {
	n := len(a.Mag)
	return n == 0 && !a.Neg || n > 0 && a.Mag[n-1] != 0
}

// normal: Den above 0, and nothing divides it and all of Num.
func normal(m api.Mat) bool {
	common := large(m.Den)
	if common.Sign() <= 0 || !normalInt(m.Den) {
		return false
	}
	for _, row := range m.Num {
		for _, x := range row {
			if !normalInt(x) {
				return false
			}
			common.GCD(nil, nil, common, new(big.Int).Abs(large(x)))
		}
	}
	return common.Cmp(big.NewInt(1)) == 0
}

// want holds an answer against what it must be, and asks for the normal form.
func want(t *testing.T, what string, got api.Mat, e api.Errno, w table) {
	t.Helper()
	ok := e == api.OK && len(got.Num) == len(w.rows) && normal(got)
	for i := 0; ok && i < len(w.rows); i++ {
		ok = len(got.Num[i]) == w.columns
		for k := 0; ok && k < w.columns; k++ {
			ok = broken(got.Num[i][k], got.Den).Cmp(w.rows[i][k]) == 0
		}
	}
	if !ok {
		t.Errorf("%s: %v, %d, want %v", what, got, e, w)
	}
}

func wantVec(t *testing.T, what string, got api.Vec, e api.Errno, w []*big.Rat) {
	t.Helper()
	want(t, what, api.Mat{Den: got.Den, Num: [][]api.Int{got.Num}}, e, table{[][]*big.Rat{w}, len(w)})
}

// wantRat is want of a fraction.
func wantRat(t *testing.T, what string, got api.Rat, e api.Errno, w *big.Rat) {
	t.Helper()
	if e != api.OK || large(got.Num).Cmp(w.Num()) != 0 || large(got.Den).Cmp(w.Denom()) != 0 || !normalInt(got.Num) || !normalInt(got.Den) {
		t.Errorf("%s: %v, %d, want %v", what, got, e, w)
	}
}

// fault asks for an error and nothing beside it.
func fault(t *testing.T, what string, e, w api.Errno, beside ...int) {
	t.Helper()
	if e != w {
		t.Errorf("%s: error %d, want %d", what, e, w)
	}
	for _, n := range beside {
		if n != 0 {
			t.Errorf("%s: something beside an error", what)
		}
	}
}

// size: how much there is of a matrix; 0 of the zero value alone.
func size(m api.Mat) int { return len(m.Num) + len(m.Den.Mag) }

func sizeVec(v api.Vec) int { return len(v.Num) + len(v.Den.Mag) }

func product(a, b table) table {
	return made(len(a.rows), b.columns, func(i, k int) *big.Rat {
		sum := new(big.Rat)
		for j, x := range a.rows[i] {
			sum.Add(sum, new(big.Rat).Mul(x, b.rows[j][k]))
		}
		return sum
	})
}

func turned(a table) table {
	return made(a.columns, len(a.rows), func(i, k int) *big.Rat { return a.rows[k][i] })
}
