package smith

import (
	"slices"

	"simile/api"
	"simile/fit"
	"simile/qpoly"
	"simile/rat"
)

// matrix is rows of polynomials that are normal.
type matrix [][]api.Poly

// read: matrices as they are normal, in new memory; the faults of the first one that has some.
func read(all ...[][]api.Poly) ([]matrix, api.Errno) {
	out := make([]matrix, len(all))
	for j, a := range all {
		if e := fault(a); e != api.OK {
			return nil, e
		}
		out[j] = made(len(a), columns(a), func(i, k int) api.Poly { return normal(a[i][k]) })
	}
	return out, api.OK
}

// readSquare: likewise, of one; then ErrNotSquare.
func readSquare(a [][]api.Poly) (matrix, api.Errno) {
	l, e := read(a)
	switch {
	case e != api.OK:
		return nil, e
	case len(a) == 0 || len(a) != columns(a):
		return nil, api.ErrNotSquare
	}
	return l[0], api.OK
}

// fault: ErrDen, ErrShape, ErrTooBig.
func fault(a [][]api.Poly) api.Errno {
	long := false
	for _, row := range a {
		for _, f := range row {
			switch fit.Poly(f) {
			case api.ErrDen:
				return api.ErrDen
			case api.ErrTooBig:
				long = true
			}
		}
	}
	for _, row := range a {
		if len(row) != columns(a) {
			return api.ErrShape
		}
	}
	if long || len(a) > api.MaxDim || columns(a) > api.MaxDim {
		return api.ErrTooBig
	}
	return api.OK
}

// columns: of no rows none.
func columns(a [][]api.Poly) int {
	if len(a) == 0 {
		return 0
	}
	return len(a[0])
}

// made: a matrix by its entries.
func made(r, c int, entry func(i, k int) api.Poly) matrix {
	out := make(matrix, r)
	for i := range out {
		out[i] = make([]api.Poly, c)
		for k := range out[i] {
			out[i][k] = entry(i, k)
		}
	}
	return out
}

func identity(n int) matrix {
	return made(n, n, func(i, k int) api.Poly {
		if i == k {
			return one()
		}
		return nil
	})
}

func one() api.Poly { return api.Poly{rat.Of(1)} }

func normal(f api.Poly) api.Poly {
	out, _ := qpoly.Norm(f)
	return out
}

func product(f, g api.Poly) api.Poly {
	if len(f) == 0 || len(g) == 0 {
		return nil
	}
	out, _ := qpoly.Mul(f, g)
	return out
}

func difference(f, g api.Poly) api.Poly {
	out, _ := qpoly.Sub(f, g)
	return out
}

// copied: in new memory.
func (m matrix) copied() matrix {
	return made(len(m), columns(m), func(i, k int) api.Poly { return normal(m[i][k]) })
}

func (m matrix) times(b matrix) matrix {
	return made(len(m), columns(b), func(i, k int) api.Poly {
		var sum api.Poly
		for j, f := range m[i] {
			sum, _ = qpoly.Add(sum, product(f, b[j][k]))
		}
		return sum
	})
}

// is: the same size and the same polynomials?
func (m matrix) is(b matrix) bool {
	return slices.EqualFunc(m, b, func(x, y []api.Poly) bool {
		return slices.EqualFunc(x, y, func(f, g api.Poly) bool {
			same, _ := qpoly.Equal(f, g)
			return same
		})
	})
}

// fractionFree eliminates by Bareiss's way (chapter 12), with polynomials for integers: each entry is a minor. It
// answers the last pivot, how many there are, and whether an odd number of rows was exchanged. With noughts above
// the pivots, too, all pivots are the last one in the end.
func (m matrix) fractionFree(above bool) (api.Poly, int, bool) {
	last, k, odd := one(), 0, false
elimination:
	for c := range columns(m) {
		p := k
		for p < len(m) && len(m[p][c]) == 0 {
			p++
		}
		if p >= len(m) {
			continue elimination
		}
		m[p], m[k] = m[k], m[p]
		odd = odd != (p != k)
		for i := range m {
			if i > k || above && i < k {
				m.clear(i, k, c, last)
			}
		}
		last = m[k][c]
		k++
	}
	return last, k, odd
}

// clear makes row i's entry in a column 0.
func (m matrix) clear(i, k, column int, last api.Poly) {
	pivot, times := m[k][column], m[i][column]
	for j, f := range m[i] {
		x := difference(product(f, pivot), product(m[k][j], times))
		if len(x) > 0 {
			x, _, _ = qpoly.Div(x, last)
		}
		m[i][j] = x
	}
}

// determinant: of as many rows as columns.
func (m matrix) determinant() api.Poly {
	last, k, odd := m.copied().fractionFree(false)
	switch {
	case k < len(m):
		return nil
	case odd:
		return difference(nil, last)
	}
	return normal(last)
}

func (m matrix) rank() int {
	_, k, _ := m.copied().fractionFree(false)
	return k
}

// inverse: false, if there is none of polynomials.
func (m matrix) inverse() (matrix, bool) {
	n := len(m)
	adjugate, d, ok := m.solved(identity(n))
	if !ok || len(d) != 1 {
		return nil, false
	}
	return made(n, n, func(i, k int) api.Poly { return quotient(adjugate[i][k], d) }), true
}

// diagonal: the Smith polynomials.
func (m matrix) diagonal() []api.Poly {
	n := len(m)
	if n >= shortFrom && n == columns(m) {
		if f, ok := m.lone(); ok {
			return ones(n-1, f)
		}
	}
	w := &work{m: m.copied(), left: made(n, 0, nil)} // rows of nothing: no transform is asked for
	out := make([]api.Poly, w.run())
	for i := range out {
		out[i] = w.m[i][i]
	}
	return out
}

// ones: n polynomials 1, and a last one.
func ones(n int, last api.Poly) []api.Poly {
	out := make([]api.Poly, n, n+1)
	for i := range out {
		out[i] = one()
	}
	return append(out, last)
}
