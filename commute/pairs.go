package commute

import (
	"simile/api"
	"simile/qmat"
	"simile/qpoly"
	"simile/rat"
)

// impossible is what a system is given up with that can't be; no matrix leads there.
type impossible struct{ what string }

// answer hands on what is reckoned, if it is not given up.
func answer[T any](reckon func() T) (out T, e api.Errno) {
	defer func() {
		if _, ok := recover().(impossible); ok {
			var none T
			out, e = none, api.ErrSingular
		}
	}()
	return reckon(), api.OK
}

// starts: where the parts of a form begin.
func starts(l []api.Poly) []int {
	out := make([]int, len(l))
	for i := range l[1:] {
		out[i+1] = out[i] + len(l[i]) - 1
	}
	return out
}

// eachPair tells of a part with f and one with g what leads from the second one to the first one and commutes with
// multiplication by x: the 1 of the polynomials modulo g goes to a multiple of f over the common divisor, so to a
// number of polynomials modulo f that is that divisor's degree.
func eachPair(to, from []api.Poly, tell func(i, j int, over api.Poly, count int)) {
	for i, f := range to {
		for j, g := range from {
			common, _ := qpoly.Gcd(f, g)
			if len(common) > 1 {
				over, _, _ := qpoly.Div(f, common)
				tell(i, j, over, len(common)-1)
			}
		}
	}
}

// between: a basis of all that leads from the second form's matrix to the first one's.
func between(f, g api.Form) []api.Mat {
	var out []api.Mat
	rows, columns := starts(f.Polys), starts(g.Polys)
	eachPair(f.Polys, g.Polys, func(i, j int, over api.Poly, count int) {
		for range count {
			block := multiples(over, f.Polys[i], len(g.Polys[j])-1)
			out = append(out, carried(f, g, rows[i], columns[j], block))
			over, _ = qpoly.Mul(over, unknown())
		}
	})
	return out
}

func unknown() api.Poly { return api.Poly{rat.Of(0), rat.Of(1)} }

// multiples: h, x h, .. of n of them, modulo f, each as a column.
func multiples(h, f api.Poly, n int) [][]api.Rat {
	rows := make([][]api.Rat, len(f)-1)
	for range n {
		_, h, _ = qpoly.Div(h, f)
		for i := range rows {
			c := rat.Of(0)
			if i < len(h) {
				c = h[i]
			}
			rows[i] = append(rows[i], c)
		}
		h, _ = qpoly.Mul(h, unknown())
	}
	return rows
}

// carried: T times a block, with noughts all around it, times the other form's inverse: its columns, the block and its rows are enough.
func carried(f, g api.Form, row, column int, rows [][]api.Rat) api.Mat {
	block, e := qmat.From(rows...)
	left, e2 := qmat.Cut(f.T, 0, len(f.T.Num), row, row+len(rows))
	right, e3 := qmat.Cut(g.Inv, column, column+len(rows[0]), 0, len(g.Inv.Num))
	if e != api.OK || e2 != api.OK || e3 != api.OK {
		panic(impossible{"a block that does not fit"})
	}
	out, _ := qmat.Mul(left, block)
	out, _ = qmat.Mul(out, right)
	return out
}

// led: the columns of what a matrix is in the form's basis.
func led(f api.Form, m api.Mat) []api.Vec {
	out, _ := qmat.Mul(f.Inv, m)
	out, _ = qmat.Mul(out, f.T)
	columns, _ := qmat.Columns(out)
	return columns
}

// part: a column's numbers in the part that begins at a place, as a polynomial modulo f.
func part(v api.Vec, at int, f api.Poly) api.Poly {
	out := make(api.Poly, len(f)-1)
	for i := range out {
		out[i], _ = rat.Make(v.Num[at+i], v.Den)
	}
	out, _ = qpoly.Norm(out)
	return out
}

// coordinates: of what commutes, by its columns in the form's basis.
func coordinates(f api.Form, columns []api.Vec) []api.Rat {
	var out []api.Rat
	at := starts(f.Polys)
	eachPair(f.Polys, f.Polys, func(i, j int, over api.Poly, count int) {
		times, rest, _ := qpoly.Div(part(columns[at[j]], at[i], f.Polys[i]), over)
		if len(rest) > 0 || len(times) > count {
			panic(impossible{"what commutes and leads to no multiple"})
		}
		for s := range count {
			c := rat.Of(0)
			if s < len(times) {
				c = times[s]
			}
			out = append(out, c)
		}
	})
	return out
}
