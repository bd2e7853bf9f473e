package minpoly

import (
	"simile/api"
	"simile/fit"
	"simile/krylov"
	"simile/qmat"
	"simile/qpoly"
	"simile/rat"
	"simile/space"
)

// minimal is a matrix, its minimal polynomial, and a vector that has the same one.
type minimal struct {
	m      api.Mat
	poly   api.Poly
	vector api.Vec
}

// found: the minimal polynomial of a matrix, or its faults.
func found(m api.Mat) (minimal, api.Errno) {
	if e := fit.Matrix(m); e != api.OK {
		return minimal{}, e
	}
	m, _ = qmat.Norm(m)
	id, _ := qmat.Identity(len(m.Num))
	units, _ := qmat.Columns(id)
	out := minimal{m: m, poly: api.Poly{rat.Of(1)}, vector: nought(units[0])}
walk:
	for _, v := range units {
		if out.degree() == len(m.Num) { // no greater one can be
			break walk
		}
		if !isNought(out.on(out.poly, v)) {
			f, _ := krylov.MinPoly(m, v)
			out.join(f, v)
		}
	}
	return out, api.OK
}

// join makes the polynomial the least common multiple with that of another vector, and the vector one that has it.
// The part of one polynomial whose divisors stand oftener in it, and the other part of the other one, are coprime:
// so the sum of vectors that have these two has their product.
func (f *minimal) join(g api.Poly, v api.Vec) {
	common, _ := qpoly.Gcd(f.poly, g)
	more, _, _ := qpoly.Div(g, common)
	mine, _, _ := qpoly.Split(f.poly, more)
	_, its, _ := qpoly.Split(g, more)
	less, _, _ := qpoly.Div(f.poly, mine)
	itsLess, _, _ := qpoly.Div(g, its)
	f.vector, _ = qmat.VecAdd(f.on(less, f.vector), f.on(itsLess, v), rat.Of(1))
	f.poly, _ = qpoly.Mul(mine, its)
}

func (f *minimal) degree() int { return len(f.poly) - 1 }

// on: g at the matrix, times v. (Its coefficients may be longer than those that chapter 14 takes.)
func (f *minimal) on(g api.Poly, v api.Vec) api.Vec {
	out := nought(v)
	for i := len(g) - 1; i >= 0; i-- {
		out, _ = qmat.Apply(f.m, out)
		out, _ = qmat.VecAdd(out, v, g[i])
	}
	return out
}

// rest: what g leaves by the polynomial.
func (f *minimal) rest(g api.Poly) api.Poly {
	_, out, _ := qpoly.Div(g, f.poly)
	return out
}

// power: the rest of x^k, by squares.
func (f *minimal) power(k int) api.Poly {
	if k == 0 {
		return f.rest(api.Poly{rat.Of(1)})
	}
	half := f.power(k / 2)
	out, _ := qpoly.Mul(half, half)
	if k%2 == 1 {
		out, _ = qpoly.Mul(out, api.Poly{rat.Of(0), rat.Of(1)})
	}
	return f.rest(out)
}

// kernel: the space that g kills.
func (f *minimal) kernel(g api.Poly) api.Space {
	id, _ := qmat.Identity(len(f.m.Num))
	columns, _ := qmat.Columns(id)
	for i, v := range columns {
		columns[i] = f.on(g, v)
	}
	x, _ := qmat.FromColumns(len(columns), columns...)
	out, _ := space.Kernel(x)
	return out
}

// nought: the vector 0 of as many entries.
func nought(v api.Vec) api.Vec {
	out, _ := qmat.VecAdd(v, v, rat.Of(-1))
	return out
}

func isNought(v api.Vec) bool {
	same, _ := qmat.VecEqual(v, nought(v))
	return same
}
