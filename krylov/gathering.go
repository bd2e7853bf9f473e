package krylov

import (
	"simile/api"
	"simile/rat"
	"simile/zint"
)

// gathering is independent vectors, in their order, and their rows made echelon by Bareiss's way (chapter 12),
// row by row: each number stays a minor, so that all divisions are whole.
type gathering struct {
	vectors []api.Vec
	rows    []row
}

// row is what is left of a vector, where its pivot stands, and the multiples of the gathered vectors, and of
// itself at the end, that make it.
type row struct {
	num  []api.Int
	at   int
	sum  []api.Int
	dens []api.Int // those of the vectors that were multiplied
}

// start takes integers that are no vector of the gathering: what is made of them counts as 0.
func (g *gathering) start(num []api.Int) {
	left := g.through(num, nil)
	if !left.isNothing() {
		g.rows = append(g.rows, left)
	}
}

// follow gathers v, A v, .. till one depends; it tells of that one what it is made of.
func (g *gathering) follow(m api.Mat, v api.Vec) row {
	first := len(g.vectors)
	var last row
walk:
	for next := range sequence(m, v) {
		last = g.cleared(next)
		if last.isNothing() {
			break walk
		}
		g.vectors = append(g.vectors, next)
		g.rows = append(g.rows, last)
	}
	last.sum, last.dens = last.sum[first:], last.dens[first:]
	return last
}

// cleared: a vector less multiples of those gathered.
func (g *gathering) cleared(v api.Vec) row {
	sum := make([]api.Int, len(g.vectors)+1)
	sum[len(g.vectors)] = zint.Of(1)
	out := g.through(v.Num, sum)
	for _, x := range g.vectors {
		out.dens = append(out.dens, x.Den)
	}
	out.dens = append(out.dens, v.Den)
	return out
}

// through: numbers, and what they are made of, with noughts where the rows have their pivots.
func (g *gathering) through(num, sum []api.Int) row {
	last := zint.Of(1)
	for _, r := range g.rows {
		pivot, times := r.num[r.at], num[r.at]
		num = crossed(num, pivot, r.num, times, last)
		sum = crossed(sum, pivot, r.sum, times, last)
		last = pivot
	}
	out := row{num: num, at: -1, sum: sum}
	for k := len(num) - 1; k >= 0; k-- {
		if zint.Sign(num[k]) != 0 {
			out.at = k
		}
	}
	return out
}

// crossed: (pivot a - times b) over last; b may be shorter: noughts lack.
func crossed(a []api.Int, pivot api.Int, b []api.Int, times, last api.Int) []api.Int {
	out := make([]api.Int, len(a))
	for i, x := range a {
		if zint.Sign(x) != 0 {
			out[i] = zint.Mul(x, pivot)
		}
		if i < len(b) && zint.Sign(b[i]) != 0 && zint.Sign(times) != 0 {
			out[i] = zint.Sub(out[i], zint.Mul(b[i], times))
		}
		if zint.Sign(out[i]) != 0 {
			out[i], _ = zint.Exact(out[i], last)
		}
	}
	return out
}

// isNothing: is nothing left?
func (r row) isNothing() bool { return r.at < 0 }

// ahead: the polynomial that makes the last vector, if those ahead of it are v, A v, ..
func (r row) ahead() api.Poly {
	f := r.over()
	for len(f) > 0 && zint.Sign(f[len(f)-1].Num) == 0 {
		f = f[:len(f)-1]
	}
	return f
}

// monic: the polynomial with lead 1 that makes 0, if the last vector is the next one of v, A v, ..
func (r row) monic() api.Poly {
	f := r.over()
	for i, c := range f {
		f[i], _ = rat.Neg(c)
	}
	return append(f, rat.Of(1))
}

// over: how many times each vector is in the last one.
func (r row) over() api.Poly {
	end := len(r.sum) - 1
	under := zint.Neg(zint.Mul(r.sum[end], r.dens[end]))
	out := make(api.Poly, end)
	for i := range out {
		out[i], _ = rat.Make(zint.Mul(r.sum[i], r.dens[i]), under)
	}
	return out
}
