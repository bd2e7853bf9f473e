package charfree

import (
	"simile/api"
	"simile/qmat"
	"simile/rat"
	"simile/zint"
)

// berkowitz: the characteristic polynomial by products of triangular matrices, without any division.
func berkowitz(m api.Mat) api.Poly {
	m, _ = qmat.Norm(m)
	n := len(m.Num)
	top := grown(m.Num, n)
	out := make(api.Poly, n+1)
	den := zint.Of(1) // of what is whole over Den, a coefficient is over its power
	for i, c := range top {
		out[n-i], _ = rat.Make(c, den)
		den = zint.Mul(den, m.Den)
	}
	return out
}

// grown: the characteristic polynomial of the first k rows and columns, its lead first: that of one row less, times
// a triangular matrix with the same numbers along each diagonal.
func grown(rows [][]api.Int, k int) []api.Int {
	if k == 0 {
		return []api.Int{zint.Of(1)}
	}
	less := grown(rows, k-1)
	diagonals := border(rows, k-1)
	out := make([]api.Int, k+1)
	for i := range out {
		for j, c := range less[:min(i+1, k)] {
			out[i] = zint.Add(out[i], zint.Mul(diagonals[i-j], c))
		}
	}
	return out
}

// border: 1, the negated number at row and column k, and the negated products of row k, powers of what is above it
// and left of it, and column k.
func border(rows [][]api.Int, k int) []api.Int {
	out := []api.Int{zint.Of(1), zint.Neg(rows[k][k])}
	column := make([]api.Int, k)
	for i := range column {
		column[i] = rows[i][k]
	}
	for range k {
		out = append(out, zint.Neg(dot(rows[k], column)))
		next := make([]api.Int, k)
		for i := range next {
			next[i] = dot(rows[i], column)
		}
		column = next
	}
	return out
}

// dot: the sum of the products, as far as b goes.
func dot(a, b []api.Int) api.Int {
	var sum api.Int
	for i, x := range b {
		if zint.Sign(x) != 0 && zint.Sign(a[i]) != 0 {
			sum = zint.Add(sum, zint.Mul(a[i], x))
		}
	}
	return sum
}
