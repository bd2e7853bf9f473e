package qmat

import (
	"iter"

	"simile/api"
	"simile/rat"
	"simile/zint"
)

// grid is rows of anything, equally long.
type grid[T any] [][]T

// place is where an entry stands.
type place struct{ row, column int }

// filled: a grid by its entries.
func filled[T any](r, c int, entry func(i, k int) T) grid[T] {
	out := make(grid[T], r)
	for i := range out {
		out[i] = make([]T, c)
		for k := range out[i] {
			out[i][k] = entry(i, k)
		}
	}
	return out
}

// columns: of no rows none.
func (g grid[T]) columns() int {
	if len(g) == 0 {
		return 0
	}
	return len(g[0])
}

// entries tells all entries, row by row, with their places.
func (g grid[T]) entries() iter.Seq2[place, T] {
	return func(yield func(place, T) bool) {
		for i, row := range g {
			for k, x := range row {
				if !yield(place{i, k}, x) {
					return
				}
			}
		}
	}
}

// columns: how many a matrix has.
func columns(m api.Mat) int { return grid[api.Int](m.Num).columns() }

// checkAll: the first fault of several.
func checkAll(l ...api.Mat) api.Errno {
	for _, m := range l {
		if e := Check(m); e != api.OK {
			return e
		}
	}
	return api.OK
}

// checkSquare: Check, then ErrNotSquare.
func checkSquare(m api.Mat) api.Errno {
	if e := Check(m); e != api.OK {
		return e
	}
	if len(m.Num) == 0 || len(m.Num) != columns(m) {
		return api.ErrNotSquare
	}
	return api.OK
}

// checkVecs: ErrDen, if one has a denominator that is 0.
func checkVecs(l ...api.Vec) api.Errno {
	for _, v := range l {
		if zint.Sign(v.Den) == 0 {
			return api.ErrDen
		}
	}
	return api.OK
}

// common: a common multiple of denominators, above 0, and how many times each of them is in it.
func common(dens ...api.Int) (api.Int, []api.Int) {
	out := zint.Lcm(dens...)
	times := make([]api.Int, len(dens))
	for i, den := range dens {
		times[i], _ = zint.Exact(out, den)
	}
	return out, times
}

// normal: integers over den, which is not 0, in normal form and new memory.
func normal(num grid[api.Int], den api.Int) api.Mat {
	divisor := zint.Abs(den)
	one := zint.Of(1)
	for _, x := range num.entries() {
		if zint.Cmp(divisor, one) == 0 {
			break
		}
		divisor = zint.Gcd(divisor, x)
	}
	if den.Neg {
		divisor = zint.Neg(divisor)
	}
	over := func(x api.Int) api.Int {
		out, _ := zint.Exact(x, divisor)
		return out
	}
	if zint.Cmp(divisor, one) == 0 { // nothing to divide by
		over = zint.Norm
	}
	out := filled(len(num), num.columns(), func(i, k int) api.Int { return over(num[i][k]) })
	return api.Mat{Den: over(den), Num: out}
}

// normalVec: likewise, of one row.
func normalVec(num []api.Int, den api.Int) api.Vec {
	m := normal(grid[api.Int]{num}, den)
	return api.Vec{Den: m.Den, Num: m.Num[0]}
}

func identity(n int) api.Mat {
	return api.Mat{Den: zint.Of(1), Num: filled(n, n, func(i, k int) api.Int {
		if i == k {
			return zint.Of(1)
		}
		return api.Int{}
	})}
}

// fractions: the entries of a matrix.
func fractions(m api.Mat) [][]api.Rat {
	return filled(len(m.Num), columns(m), func(i, k int) api.Rat {
		out, _ := rat.Make(m.Num[i][k], m.Den)
		return out
	})
}

// dot: the sum of the products; a and b are equally long.
func dot(a, b []api.Int) api.Int {
	var sum api.Int
	for i, x := range a {
		if zint.Sign(x) != 0 && zint.Sign(b[i]) != 0 {
			sum = zint.Add(sum, zint.Mul(x, b[i]))
		}
	}
	return sum
}

// product: a has as many columns as b rows.
func product(a, b api.Mat) api.Mat {
	turned := filled(columns(b), len(b.Num), func(i, k int) api.Int { return b.Num[k][i] })
	return normal(filled(len(a.Num), columns(b), func(i, k int) api.Int {
		return dot(a.Num[i], turned[k])
	}), zint.Mul(a.Den, b.Den))
}
