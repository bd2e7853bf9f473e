// Package gather gathers independent vectors one by one, and tells what a further one is made of. The layers 15 and 19
// follow a vector under a matrix with it.
package gather

import (
	"simile/api"
	"simile/rat"
	"simile/zint"
)

// Gathering is independent vectors, in their order, and their rows made echelon by Bareiss's way (chapter 12),
// row by row: each number stays a minor, so that all divisions are whole.
type Gathering struct {
	vectors []api.Vec
	rows    []row
	started int // so many rows are of no vector
}

// row is what is left of a vector, where its pivot stands, and the multiples of the gathered vectors, and of
// itself at the end, that make it.
type row struct {
	num []api.Int
	at  int
	sum []api.Int
}

// Relation is what a vector is made of, as far as it is made of those gathered.
type Relation struct {
	row
	dens []api.Int // those of the gathered vectors and its own
}

// Start takes integers that are no vector of the gathering: what is made of them counts as 0. No vector may be gathered yet.
func (g *Gathering) Start(num []api.Int) {
	left := g.through(num, nil)
	if left.at >= 0 {
		g.rows = append(g.rows, left)
		g.started++
	}
}

// Take gathers a vector, if it does not depend on those gathered; and tells what it is made of.
func (g *Gathering) Take(v api.Vec) Relation {
	r := g.Clear(v)
	if !r.Depends() {
		g.vectors = append(g.vectors, v)
		g.rows = append(g.rows, r.row)
	}
	return r
}

// Clear tells what a vector is made of, and does not gather it.
func (g *Gathering) Clear(v api.Vec) Relation {
	sum := make([]api.Int, len(g.vectors)+1)
	sum[len(g.vectors)] = zint.Of(1)
	out := Relation{row: g.through(v.Num, sum)}
	for _, x := range g.vectors {
		out.dens = append(out.dens, x.Den)
	}
	out.dens = append(out.dens, v.Den)
	return out
}

// Count: how many vectors are gathered.
func (g *Gathering) Count() int { return len(g.vectors) }

// Vectors: those gathered.
func (g *Gathering) Vectors() []api.Vec { return g.vectors }

// Cut leaves the first n vectors alone.
func (g *Gathering) Cut(n int) {
	g.vectors, g.rows = g.vectors[:n:n], g.rows[:g.started+n:g.started+n]
}

// Dual: the vector whose product with the gathered vector i is 1, and with all others 0; there are as many as entries.
func (g *Gathering) Dual(i int) api.Vec {
	n := len(g.rows)
	out := make([]api.Int, n)
	last := g.rows[n-1].num[g.rows[n-1].at]
	for k := n - 1; k >= 0; k-- {
		r := g.rows[k]
		var sum api.Int
		if i <= k {
			sum = zint.Mul(zint.Mul(r.sum[i], g.vectors[i].Den), last)
		}
		for c, x := range r.num {
			if c != r.at && zint.Sign(x) != 0 {
				sum = zint.Sub(sum, zint.Mul(x, out[c]))
			}
		}
		out[r.at], _ = zint.Exact(sum, r.num[r.at])
	}
	return api.Vec{Den: last, Num: out}
}

// Depends: is the vector made of those gathered alone?
func (r Relation) Depends() bool { return r.at < 0 }

// Multiples: how many times each gathered vector is in one that depends.
func (r Relation) Multiples() []api.Rat {
	end := len(r.sum) - 1
	under := zint.Neg(zint.Mul(r.sum[end], r.dens[end]))
	out := make([]api.Rat, end)
	for i := range out {
		out[i], _ = rat.Make(zint.Mul(r.sum[i], r.dens[i]), under)
	}
	return out
}

// through: numbers, and what they are made of, with noughts where the rows have their pivots.
func (g *Gathering) through(num, sum []api.Int) row {
	last := zint.Of(1)
	for _, r := range g.rows {
		pivot, times := r.num[r.at], num[r.at]
		num = crossed(num, pivot, r.num, times, last)
		sum = crossed(sum, pivot, r.sum, times, last)
		last = pivot
	}
	out := row{num: num, at: -1, sum: sum}
	for k := len(num) - 1; k >= 0; k-- {
		if zint.Sign(num[k]) != 0 {
			out.at = k
		}
	}
	return out
}

// crossed: (pivot a - times b) over last; b may be shorter: noughts lack.
func crossed(a []api.Int, pivot api.Int, b []api.Int, times, last api.Int) []api.Int {
	out := make([]api.Int, len(a))
	for i, x := range a {
		if zint.Sign(x) != 0 {
			out[i] = zint.Mul(x, pivot)
		}
		if i < len(b) && zint.Sign(b[i]) != 0 && zint.Sign(times) != 0 {
			out[i] = zint.Sub(out[i], zint.Mul(b[i], times))
		}
		if zint.Sign(out[i]) != 0 {
			out[i], _ = zint.Exact(out[i], last)
		}
	}
	return out
}
