package qmat

import (
	"simile/api"
	"simile/rat"
	"simile/zint"
)

// VecNorm: a vector in normal form.
func VecNorm(v api.Vec) (api.Vec, api.Errno) {
	if e := checkVecs(v); e != api.OK {
		return api.Vec{}, e
	}
	return normalVec(v.Num, v.Den), api.OK
}

// VecFrom: a vector of its entries.
func VecFrom(l ...api.Rat) (api.Vec, api.Errno) {
	den, nums, e := rat.Common(l...)
	if e != api.OK {
		return api.Vec{}, e
	}
	return normalVec(nums, den), api.OK
}

// VecEqual: the same vector?
func VecEqual(a, b api.Vec) (bool, api.Errno) {
	return Equal(api.Mat{Den: a.Den, Num: [][]api.Int{a.Num}}, api.Mat{Den: b.Den, Num: [][]api.Int{b.Num}})
}

// VecAdd: a + c b.
func VecAdd(a, b api.Vec, c api.Rat) (api.Vec, api.Errno) {
	if e := checkVecs(a, b, api.Vec{Den: c.Den}); e != api.OK {
		return api.Vec{}, e
	}
	if len(a.Num) != len(b.Num) {
		return api.Vec{}, api.ErrShape
	}
	den, times := common(a.Den, zint.Mul(b.Den, c.Den))
	scale := zint.Mul(times[1], c.Num)
	out := make([]api.Int, len(a.Num))
	for i, x := range a.Num {
		out[i] = zint.Add(zint.Mul(x, times[0]), zint.Mul(b.Num[i], scale))
	}
	return normalVec(out, den), api.OK
}

// Apply: a matrix times a vector.
func Apply(m api.Mat, v api.Vec) (api.Vec, api.Errno) {
	if e := Check(m); e != api.OK {
		return api.Vec{}, e
	}
	if e := checkVecs(v); e != api.OK {
		return api.Vec{}, e
	}
	if columns(m) != len(v.Num) {
		return api.Vec{}, api.ErrShape
	}
	out := make([]api.Int, len(m.Num))
	for i, row := range m.Num {
		out[i] = dot(row, v.Num)
	}
	return normalVec(out, zint.Mul(m.Den, v.Den)), api.OK
}

// Columns: its columns.
func Columns(m api.Mat) ([]api.Vec, api.Errno) {
	if e := Check(m); e != api.OK {
		return nil, e
	}
	var out []api.Vec
	for k := range columns(m) {
		column := make([]api.Int, len(m.Num))
		for i, row := range m.Num {
			column[i] = row[k]
		}
		out = append(out, normalVec(column, m.Den))
	}
	return out, api.OK
}

// FromColumns: a matrix of columns of n entries.
func FromColumns(n int, l ...api.Vec) (api.Mat, api.Errno) {
	if e := checkVecs(l...); e != api.OK {
		return api.Mat{}, e
	}
	switch {
	case n < 0:
		return api.Mat{}, api.ErrArg
	case n > api.MaxWide:
		return api.Mat{}, api.ErrTooBig
	}
	dens := make([]api.Int, len(l))
	for k, v := range l {
		if len(v.Num) != n {
			return api.Mat{}, api.ErrShape
		}
		dens[k] = v.Den
	}
	den, times := common(dens...)
	return normal(filled(n, len(l), func(i, k int) api.Int {
		return zint.Mul(l[k].Num[i], times[k])
	}), den), api.OK
}
