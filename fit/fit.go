// Package fit tells the faults of matrices, vectors and polynomials that the layers from 14 on take. See shared/doc/14-evalm.md.
package fit

import (
	"simile/api"
	"simile/nat"
	"simile/qmat"
	"simile/rat"
	"simile/zint"
)

// Matrix: ErrDen, ErrShape, ErrNotSquare, ErrTooBig.
func Matrix(m api.Mat) api.Errno {
	r, c, e := qmat.Size(m)
	switch {
	case e != api.OK:
		return e
	case r == 0 || r != c:
		return api.ErrNotSquare
	case r > api.MaxDim:
		return api.ErrTooBig
	}
	for _, row := range m.Num {
		if tooLong(m.Den, row) {
			return api.ErrTooBig
		}
	}
	return api.OK
}

// Vector: of n entries: ErrDen, ErrShape, ErrTooBig.
func Vector(v api.Vec, n int) api.Errno {
	switch {
	case zint.Sign(v.Den) == 0:
		return api.ErrDen
	case len(v.Num) != n:
		return api.ErrShape
	case LongVec(v):
		return api.ErrTooBig
	}
	return api.OK
}

// LongVec: is one of a vector's entries too long?
func LongVec(v api.Vec) bool {
	return tooLong(v.Den, v.Num)
}

// Poly: ErrDen, ErrTooBig.
func Poly(f api.Poly) api.Errno {
	for _, c := range f {
		if zint.Sign(c.Den) == 0 {
			return api.ErrDen
		}
	}
	for i, c := range f {
		if zint.Sign(c.Num) != 0 && (i > api.MaxDegree || Long(c)) {
			return api.ErrTooBig
		}
	}
	return api.OK
}

// Long: has a fraction, in lowest terms, more than MaxBits bits in its numerator or denominator?
func Long(c api.Rat) bool {
	if nat.Len(c.Num.Mag) <= api.MaxBits && nat.Len(c.Den.Mag) <= api.MaxBits { // lowest terms make it no longer
		return false
	}
	bits, _ := rat.Height(c)
	return bits > api.MaxBits
}

// tooLong: is one of a row's numbers, over den, too long?
func tooLong(den api.Int, row []api.Int) bool {
	for _, x := range row {
		if Long(api.Rat{Num: x, Den: den}) {
			return true
		}
	}
	return false
}
