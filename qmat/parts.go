package qmat

import (
	"simile/api"
	"simile/zint"
)

// Blocks: the direct sum of all.
func Blocks(l ...api.Mat) (api.Mat, api.Errno) {
	if e := checkAll(l...); e != api.OK {
		return api.Mat{}, e
	}
	dens := make([]api.Int, len(l))
	r, c := 0, 0
	for j, m := range l {
		dens[j] = m.Den
		r, c = r+len(m.Num), c+columns(m)
	}
	den, times := common(dens...)
	out := filled(r, c, func(i, k int) api.Int { return api.Int{} })
	r, c = 0, 0
	for j, m := range l {
		for at, x := range grid[api.Int](m.Num).entries() {
			out[r+at.row][c+at.column] = zint.Mul(x, times[j])
		}
		r, c = r+len(m.Num), c+columns(m)
	}
	return normal(out, den), api.OK
}

// Stack: one above the other.
func Stack(a, b api.Mat) (api.Mat, api.Errno) {
	if e := checkAll(a, b); e != api.OK {
		return api.Mat{}, e
	}
	switch {
	case len(a.Num) == 0:
		return normal(b.Num, b.Den), api.OK
	case len(b.Num) == 0:
		return normal(a.Num, a.Den), api.OK
	case columns(a) != columns(b):
		return api.Mat{}, api.ErrShape
	}
	den, times := common(a.Den, b.Den)
	return normal(filled(len(a.Num)+len(b.Num), columns(a), func(i, k int) api.Int {
		if i < len(a.Num) {
			return zint.Mul(a.Num[i][k], times[0])
		}
		return zint.Mul(b.Num[i-len(a.Num)][k], times[1])
	}), den), api.OK
}

// Cut: the rows from r to r2, the columns from c to c2.
func Cut(m api.Mat, r, r2, c, c2 int) (api.Mat, api.Errno) {
	if e := Check(m); e != api.OK {
		return api.Mat{}, e
	}
	if r < 0 || r > r2 || r2 > len(m.Num) || c < 0 || c > c2 || c2 > columns(m) {
		return api.Mat{}, api.ErrArg
	}
	return normal(filled(r2-r, c2-c, func(i, k int) api.Int { return m.Num[r+i][c+k] }), m.Den), api.OK
}

// Kronecker: in place of each entry of a it times b.
func Kronecker(a, b api.Mat) (api.Mat, api.Errno) {
	if e := checkAll(a, b); e != api.OK {
		return api.Mat{}, e
	}
	r, c := len(b.Num), columns(b)
	if len(a.Num)*r > api.MaxWide || columns(a)*c > api.MaxWide {
		return api.Mat{}, api.ErrTooBig
	}
	return normal(filled(len(a.Num)*r, columns(a)*c, func(i, k int) api.Int {
		return zint.Mul(a.Num[i/r][k/c], b.Num[i%r][k%c])
	}), zint.Mul(a.Den, b.Den)), api.OK
}

// Flat: its entries, row by row, as a vector.
func Flat(m api.Mat) (api.Vec, api.Errno) {
	if e := Check(m); e != api.OK {
		return api.Vec{}, e
	}
	var out []api.Int
	for _, x := range grid[api.Int](m.Num).entries() {
		out = append(out, x)
	}
	return normalVec(out, m.Den), api.OK
}
