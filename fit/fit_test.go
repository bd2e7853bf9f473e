package fit_test

import (
	"testing"

	"simile/api"
	"simile/fit"
	"simile/zint"
)

// bits: 2^n.
func bits(n int) api.Int {
	out := api.Int{Mag: make(api.Nat, n/32+1)}
	out.Mag[n/32] = 1 << (n % 32)
	return out
}

func square(n int, den, number api.Int) api.Mat {
	out := api.Mat{Den: den}
	for range n {
		row := make([]api.Int, n)
		row[n-1] = number
		out.Num = append(out.Num, row)
	}
	return out
}

func TestMatrix(t *testing.T) {
	one := zint.Of(1)
	ragged := api.Mat{Den: one, Num: [][]api.Int{{one}, {}}}
	for _, c := range []struct {
		m api.Mat
		e api.Errno
	}{
		{api.Mat{}, api.ErrDen}, {api.Mat{Num: ragged.Num}, api.ErrDen}, {ragged, api.ErrShape}, {api.Mat{Den: one}, api.ErrNotSquare}, {api.Mat{Den: one, Num: [][]api.Int{{one, one}}}, api.ErrNotSquare},
		{square(25, one, one), api.ErrTooBig}, {square(24, one, one), api.OK}, {square(2, one, bits(4096)), api.ErrTooBig}, {square(2, one, bits(4095)), api.OK}, {square(2, bits(4096), one), api.ErrTooBig}, {square(2, bits(4096), bits(4097)), api.OK}, {square(2, bits(5000), api.Int{}), api.OK},
	} {
		if e := fit.Matrix(c.m); e != c.e {
			t.Errorf("Matrix of %d rows: %d, want %d", len(c.m.Num), e, c.e)
		}
	}
}

func TestVectorAndPoly(t *testing.T) {
	one := zint.Of(1)
	for _, c := range []struct {
		v api.Vec
		e api.Errno
	}{{api.Vec{}, api.ErrDen}, {api.Vec{Den: one, Num: []api.Int{bits(4096)}}, api.ErrShape}, {api.Vec{Den: one, Num: []api.Int{bits(4096), {}}}, api.ErrTooBig}, {api.Vec{Den: bits(4095), Num: []api.Int{one, {}}}, api.OK}} {
		if e := fit.Vector(c.v, 2); e != c.e {
			t.Errorf("Vector: %d, want %d", e, c.e)
		}
	}
	long := make(api.Poly, 200)
	for i := range long {
		long[i] = api.Rat{Den: bits(9000)}
	}
	if e := fit.Poly(long); e != api.OK {
		t.Errorf("Poly of noughts: %d", e)
	}
	long[100] = api.Rat{Num: one, Den: one}
	if e := fit.Poly(long); e != api.OK {
		t.Errorf("Poly of degree 100: %d", e)
	}
	long[101] = api.Rat{Num: one, Den: one}
	if e := fit.Poly(long); e != api.ErrTooBig {
		t.Errorf("Poly of degree 101: %d", e)
	}
	long[199].Den = api.Int{}
	if e := fit.Poly(long); e != api.ErrDen {
		t.Errorf("Poly with a denominator 0: %d", e)
	}
	if !fit.Long(api.Rat{Num: one, Den: bits(4096)}) || fit.Long(api.Rat{Num: bits(4096), Den: bits(4096)}) {
		t.Error("Long")
	}
}
