package space

import (
	"slices"

	"simile/api"
	"simile/bareiss"
	"simile/qmat"
	"simile/zint"
)

// rows are vectors over one denominator.
type rows struct {
	list [][]api.Int
	den  api.Int
}

func (r rows) count() int { return len(r.list) }

func (r rows) matrix() api.Mat { return api.Mat{Den: r.den, Num: r.list} }

// vectors: each row as one.
func (r rows) vectors() []api.Vec {
	out := make([]api.Vec, len(r.list))
	for i, row := range r.list {
		out[i] = api.Vec{Den: r.den, Num: row}
	}
	return out
}

// basis is a reduced one: its rows, how many entries they have, and where their pivots stand.
type basis struct {
	rows
	n      int
	pivots []int
}

// checkWidth: ErrArg, ErrTooBig of a number of entries.
func checkWidth(n int) api.Errno {
	switch {
	case n < 0:
		return api.ErrArg
	case n > api.MaxWide:
		return api.ErrTooBig
	}
	return api.OK
}

// checkVectors: the faults of a number of entries and of vectors that are to have so many.
func checkVectors(n int, l []api.Vec) api.Errno {
	if e := checkWidth(n); e != api.OK {
		return e
	}
	for _, v := range l {
		if zint.Sign(v.Den) == 0 {
			return api.ErrDen
		}
	}
	for _, v := range l {
		if len(v.Num) != n {
			return api.ErrShape
		}
	}
	return api.OK
}

// pivotsOf: where the rows' pivots stand; false, if the rows are no reduced basis.
func pivotsOf(m api.Mat) ([]int, bool) {
	var pivots []int
	last := -1
	for _, row := range m.Num {
		at := first(row)
		if at <= last || zint.Cmp(row[at], m.Den) != 0 {
			return nil, false
		}
		pivots = append(pivots, at)
		last = at
	}
	for i, at := range pivots {
		for k, row := range m.Num {
			if k != i && zint.Sign(row[at]) != 0 {
				return nil, false
			}
		}
	}
	return pivots, true
}

// first: the place of the first number that is not 0; -1, if there is none.
func first(row []api.Int) int {
	for k, x := range row {
		if zint.Sign(x) != 0 {
			return k
		}
	}
	return -1
}

// opened: a space's basis, or Check's error.
func opened(s api.Space) (basis, api.Errno) {
	if e := Check(s); e != api.OK {
		return basis{}, e
	}
	m, _ := qmat.Norm(s.Basis)
	pivots, _ := pivotsOf(m)
	return basis{rows{m.Num, m.Den}, s.N, pivots}, api.OK
}

// openedBoth: likewise of two, that are to have as many entries.
func openedBoth(a, b api.Space) (basis, basis, api.Errno) {
	x, e := opened(a)
	if e != api.OK {
		return basis{}, basis{}, e
	}
	y, e := opened(b)
	switch {
	case e != api.OK:
		return basis{}, basis{}, e
	case x.n != y.n:
		return basis{}, basis{}, api.ErrShape
	}
	return x, y, api.OK
}

// span: the least space that has vectors of n entries.
func span(n int, l []api.Vec) basis {
	all := make([][]api.Int, len(l))
	for i, v := range l {
		all[i] = v.Num // the denominators say nothing about the space
	}
	m, pivots, _ := bareiss.Reduce(api.Mat{Den: zint.Of(1), Num: all})
	return basis{rows{m.Num[:len(pivots)], m.Den}, n, pivots}
}

// told: the space, in new memory.
func (b basis) told() api.Space {
	m, _ := qmat.Norm(b.matrix())
	return api.Space{N: b.n, Basis: m}
}

// coordinates: those of a vector of n entries; false, if it is not in the space. Where a pivot stands all other
// rows have noughts, so there the vector tells its coordinate.
func (b basis) coordinates(v api.Vec) (api.Vec, bool) {
	x := make([]api.Int, b.count())
	left := make([]api.Int, b.n)
	for k, y := range v.Num {
		left[k] = zint.Mul(b.den, y)
	}
	for i, at := range b.pivots {
		x[i] = v.Num[at]
		take(left, x[i], b.list[i])
	}
	if first(left) >= 0 {
		return api.Vec{}, false
	}
	out, _ := qmat.VecNorm(api.Vec{Den: v.Den, Num: x})
	return out, true
}

// take takes x times a row from another one.
func take(from []api.Int, x api.Int, row []api.Int) {
	if zint.Sign(x) == 0 {
		return
	}
	for k, y := range row {
		if zint.Sign(y) != 0 {
			from[k] = zint.Sub(from[k], zint.Mul(x, y))
		}
	}
}

// within: is each vector in another space of as many entries?
func (b basis) within(other basis) bool {
	for _, v := range b.vectors() {
		if _, ok := other.coordinates(v); !ok {
			return false
		}
	}
	return true
}

// under: what m, of so many rows, makes of the space.
func (b basis) under(m api.Mat, r int) basis {
	images := b.vectors()
	for i, v := range images {
		images[i], _ = qmat.Apply(m, v)
	}
	return span(r, images)
}

// kernelOf: the space of the vectors of n entries of which all rows make 0. Each of bareiss's vectors ends with
// the 1 at its column without a pivot; with the columns turned round it begins with it, as in a reduced basis.
func kernelOf(n int, l []api.Vec) basis {
	all := [][]api.Int{make([]api.Int, n)} // a row of noughts, so that there are columns, if there is no other row
	for _, v := range l {
		all = append(all, turned(v.Num))
	}
	vectors, _ := bareiss.Kernel(api.Mat{Den: zint.Of(1), Num: all})
	slices.Reverse(vectors)
	for i, v := range vectors {
		vectors[i].Num = turned(v.Num)
	}
	m, _ := qmat.Transpose(transposed(n, vectors))
	pivots, _ := pivotsOf(m)
	return basis{rows{m.Num, m.Den}, n, pivots}
}

// transposed: the matrix whose columns are vectors of n entries.
func transposed(n int, l []api.Vec) api.Mat {
	m, _ := qmat.FromColumns(n, l...)
	return m
}

// turned: the other way round, in new memory.
func turned(row []api.Int) []api.Int {
	out := slices.Clone(row)
	slices.Reverse(out)
	return out
}
