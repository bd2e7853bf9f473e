package smith

import (
	"simile/api"
	"simile/qpoly"
	"simile/rat"
)

// From how many rows on the short way is gone, where it can be gone: it keeps degrees and coefficients small, of which
// elimination makes ever greater ones.
const shortFrom = 7

// solved: d times m^-1 b, and d, a determinant of m but for its sign; false, if m has no inverse.
func (m matrix) solved(b matrix) (matrix, api.Poly, bool) {
	n := len(m)
	wide := made(n, n+columns(b), func(i, k int) api.Poly {
		if k < n {
			return m[i][k]
		}
		return b[i][k-n]
	})
	d, _, _ := wide.fractionFree(true)
	if len(wide[n-1][n-1]) == 0 {
		return nil, nil, false
	}
	return made(n, columns(b), func(i, k int) api.Poly { return wide[i][n+k] }), d, true
}

// powers: 1, t, t^2, .. as a column of n numbers.
func powers(t int64, n int) matrix {
	power := rat.Of(1)
	return made(n, 1, func(i, k int) api.Poly {
		if i > 0 {
			power, _ = rat.Mul(power, rat.Of(t))
		}
		return normal(api.Poly{power})
	})
}

// turned: rows for columns.
func (m matrix) turned() matrix {
	return made(columns(m), len(m), func(i, k int) api.Poly { return m[k][i] })
}

// lone: the last Smith polynomial of a square m, if it is seen by one try that all others are 1: d times m^-1 is not
// 0 modulo any divisor of the determinant, for a sum of its entries has none in common with it.
func (m matrix) lone() (api.Poly, bool) {
	c := powers(2, len(m))
	u, d, ok := m.solved(c)
	if !ok {
		return nil, false
	}
	f, _ := qpoly.Monic(d)
	g, _ := qpoly.Gcd(c.turned().times(u)[0][0], f)
	return f, len(g) == 1
}

// short makes the form of a square matrix whose Smith polynomials are all 1 but for the last one, f: with a row of
// numbers r and a column h of polynomials, r h = 1 and m h a multiple of f. So V is h beside columns of which r makes
// 0, and m V is f times a polynomial column there; U is what is left to make the form. False, if no such h is found.
func (w *work) short() bool {
	n := len(w.m)
	adjugate, d, ok := w.m.solved(identity(n))
	if !ok {
		return false
	}
	f, _ := qpoly.Monic(d)
	if len(f) == 1 { // m's inverse is one of polynomials
		w.left = made(n, n, func(i, k int) api.Poly { return quotient(adjugate[i][k], d) })
		w.m = identity(n)
		return true
	}
	for t := range int64(4) {
		c := powers(t, n)
		u := adjugate.times(c)
		g, unit, _, _ := qpoly.Bezout(c.turned().times(u)[0][0], f)
		if len(g) == 1 {
			w.finish(c, made(n, 1, func(i, k int) api.Poly { return rest(product(u[i][0], unit), f) }), adjugate, d, f)
			return true
		}
	}
	return false
}

func rest(f, g api.Poly) api.Poly {
	_, out, _ := qpoly.Div(f, g)
	return out
}

func quotient(f, g api.Poly) api.Poly {
	out, _, _ := qpoly.Div(f, g)
	return out
}

// finish puts the form and what leads to it in their places; adjugate is d times m^-1, r's first number is 1.
func (w *work) finish(r, h, adjugate matrix, d, f api.Poly) {
	n := len(w.m)
	row := r.turned().times(adjugate) // of what V^-1 makes, its last row
	w.left = made(n, n, func(i, k int) api.Poly {
		if i == n-1 {
			return quotient(product(row[0][k], f), d)
		}
		return quotient(difference(adjugate[i+1][k], product(h[i+1][0], row[0][k])), d)
	})
	w.right = made(n, n, func(i, k int) api.Poly {
		switch {
		case k == n-1:
			return h[i][0]
		case i == 0:
			return difference(nil, r[k+1][0])
		case i == k+1:
			return one()
		}
		return nil
	})
	w.m = identity(n)
	w.m[n-1][n-1] = f
}
