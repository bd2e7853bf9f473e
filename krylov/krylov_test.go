package krylov_test

import (
	"fmt"
	"math/big"
	"math/rand"
	"testing"

	"simile/api"
	"simile/krylov"
	"simile/space"
	"simile/zint"
)

// powersOf: v, m v, .. of n rows.
func powersOf(m table, v []*big.Rat, n int) table {
	var out table
	for range n {
		out = append(out, v)
		v = apply(m, v)
	}
	return out
}

func apply(m table, v []*big.Rat) []*big.Rat {
	return turned(times(m, turned(table{v})))[0]
}

// least: the monic polynomial of least degree that leads v into the span of rows.
func least(m, rows table, v []*big.Rat) poly {
	base := reduced(rows)
	for d := 0; ; d++ {
		all := powersOf(m, v, d+1)
		below := append(append(table{}, base...), all[:d]...)
		if len(reduced(append(below[:len(below):len(below)], all[d]))) > len(reduced(below)) {
			continue
		}
		system := reduced(turned(append(below, all[d])))
		out := make(poly, d+1)
		for i := range d {
			out[i] = new(big.Rat).Neg(system[len(base)+i][len(below)])
		}
		out[d] = big.NewRat(1, 1)
		return out
	}
}

// derogatory tells a matrix with small cyclic spaces: blocks along the diagonal, in another basis now and then.
func derogatory(r *rand.Rand, n int) api.Mat {
	m := some(r, n, n)
	for i := range n {
		for k := range n {
			if i/2 != k/2 || r.Intn(4) == 0 {
				m.Num[i][k] = api.Int{}
			}
		}
		if r.Intn(2) == 0 {
			m.Num[i][i] = m.Num[0][0]
		}
	}
	return m
}

func TestMinPoly(t *testing.T) { // P15.1, P15.2, P15.4, P15.5
	r := rand.New(rand.NewSource(1))
	for k := range 300 {
		n := r.Intn(5) + 1
		m, v := some(r, n, n), someVec(r, n)
		if k%2 == 0 {
			m = derogatory(r, n)
		}
		w := least(list(m), nil, listVec(v))
		got, e := krylov.MinPoly(m, v)
		wantPoly(t, fmt.Sprint("MinPoly ", m, v), got, e, w)
		d := len(w) - 1
		basis, e := krylov.Basis(m, v)
		if len(basis) != d || e != api.OK {
			t.Fatalf("Basis(%v, %v): %v, %d", m, v, basis, e)
		}
		rows := powersOf(list(m), listVec(v), d)
		for i, x := range basis {
			wantVec(t, "Basis", x, e, rows[i])
		}
		s, e := krylov.Cyclic(m, v)
		if e != api.OK || s.N != n || !sameRows(s.Basis.Den, s.Basis.Num, reduced(rows)) {
			t.Errorf("Cyclic(%v, %v): %v, %d", m, v, s, e)
		}
		if stays, _ := space.Stays(m, s); !stays {
			t.Errorf("Cyclic(%v, %v) does not stay", m, v)
		}
		seq, e := krylov.Sequence(m, v)
		at := listVec(v)
		i := 0
		for x := range seq {
			wantVec(t, "Sequence", x, e, at)
			at = apply(list(m), at)
			if i++; i > n+2 {
				break
			}
		}
		none := api.Space{N: n, Basis: of(1, 1)}
		got, e = krylov.Conductor(m, v, none)
		wantPoly(t, "Conductor into 0", got, e, w)
	}
}

func TestConductor(t *testing.T) { // P15.2, P15.3, P15.6
	r := rand.New(rand.NewSource(2))
	for range 200 {
		n := r.Intn(5) + 1
		m := derogatory(r, n)
		var l []api.Vec
		var rows table
		for range r.Intn(3) {
			l = append(l, someVec(r, n))
			rows = append(rows, powersOf(list(m), listVec(l[len(l)-1]), n)...)
		}
		s, e := krylov.Closure(m, l...)
		if e != api.OK || s.N != n || !sameRows(s.Basis.Den, s.Basis.Num, reduced(rows)) {
			t.Fatalf("Closure(%v, %v): %v, %d", m, l, s, e)
		}
		sum := api.Space{N: n, Basis: of(1, 1)}
		for _, v := range l {
			c, _ := krylov.Cyclic(m, v)
			sum, _ = space.Sum(sum, c)
		}
		if same, _ := space.Equal(s, sum); !same {
			t.Errorf("Closure(%v, %v) is not the sum of Cyclic of each", m, l)
		}
		v := someVec(r, n)
		for _, row := range s.Basis.Num { // in another form
			for k := range row {
				row[k] = zint.Mul(row[k], zint.Of(-3))
			}
		}
		s.Basis.Den = zint.Mul(s.Basis.Den, zint.Of(-3))
		got, e := krylov.Conductor(m, v, s)
		wantPoly(t, fmt.Sprint("Conductor ", m, v, s), got, e, least(list(m), rows, listVec(v)))
	}
}

func TestExpress(t *testing.T) { // P15.3, P15.7
	r := rand.New(rand.NewSource(3))
	for range 300 {
		n := r.Intn(5) + 1
		m, v, w := derogatory(r, n), someVec(r, n), someVec(r, n)
		if f := listPoly(somePoly(r, 4)); r.Intn(2) == 0 {
			x := apply(at(f, list(m)), listVec(v))
			w = api.Vec{Den: zint.Of(1)}
			scale := big.NewInt(1)
			for _, y := range x {
				scale.Mul(scale, y.Denom())
			}
			w.Den = integer(scale)
			for _, y := range x {
				w.Num = append(w.Num, integer(new(big.Int).Div(new(big.Int).Mul(y.Num(), scale), y.Denom())))
			}
		}
		rows := powersOf(list(m), listVec(v), len(least(list(m), nil, listVec(v)))-1)
		in := len(reduced(append(rows[:len(rows):len(rows)], listVec(w)))) == len(rows)
		f, ok, e := krylov.Express(m, v, w)
		if ok != in || e != api.OK {
			t.Fatalf("Express(%v, %v, %v): %v, %t, %d", m, v, w, f, ok, e)
		}
		if !ok {
			fault(t, "Express", e, api.OK, f)
			continue
		}
		if wantPoly(t, "Express", f, e, listPoly(f)); len(f) > len(rows) || fmt.Sprint(apply(at(listPoly(f), list(m)), listVec(v))) != fmt.Sprint(listVec(w)) {
			t.Errorf("Express(%v, %v, %v): %v", m, v, w, f)
		}
	}
}

// integer: one of math/big as it is here.
func integer(x *big.Int) api.Int {
	out := api.Int{Neg: x.Sign() < 0}
	for rest := new(big.Int).Abs(x); rest.Sign() > 0; rest.Rsh(rest, 32) {
		out.Mag = append(out.Mag, uint32(new(big.Int).And(rest, big.NewInt(0xffffffff)).Uint64()))
	}
	return out
}

func TestExamples(t *testing.T) {
	m := of(1, 2, 1, 1, 0, 2)
	for _, c := range []struct {
		v api.Vec
		f api.Poly
	}{{vec(1, 1, 0), coeffs(-1, 1)}, {vec(1, 0, 1), coeffs(2, -3, 1)}, {vec(-3, 0, 0), coeffs(1)}} {
		got, e := krylov.MinPoly(m, c.v)
		wantPoly(t, "MinPoly", got, e, listPoly(c.f))
	}
	f, ok, e := krylov.Express(m, vec(1, 0, 1), vec(1, 1, 2))
	if wantPoly(t, "Express", f, e, listPoly(coeffs(0, 1))); !ok {
		t.Error("Express")
	}
	f, ok, e = krylov.Express(m, vec(1, 0, 0), vec(1, 0, 0))
	if wantPoly(t, "Express of 0", f, e, nil); !ok {
		t.Error("Express of 0 by 0")
	}
	f, ok, e = krylov.Express(m, vec(1, 0, 0), vec(1, 1, 0))
	if fault(t, "Express by 0", e, api.OK, f); ok {
		t.Error("Express by 0")
	}
	f, e = krylov.Conductor(m, vec(1, 0, 1), api.Space{N: 2, Basis: of(1, 2, 1, 0)})
	wantPoly(t, "Conductor", f, e, listPoly(coeffs(-2, 1)))
	f, e = krylov.Conductor(m, vec(1, 0, 1), api.Space{N: 2, Basis: of(1, 2, 0, 1)})
	fault(t, "Conductor", e, api.ErrSpace, f)
	f, e = krylov.Conductor(m, vec(1, 5, 0), api.Space{N: 2, Basis: of(1, 2, 1, 0)})
	wantPoly(t, "Conductor of what is in", f, e, listPoly(coeffs(1)))
	s, e := krylov.Closure(m)
	if s.N != 2 || len(s.Basis.Num) > 0 || len(s.Basis.Den.Mag) != 1 || e != api.OK {
		t.Errorf("Closure of none: %v, %d", s, e)
	}
}

func TestSequenceKeeps(t *testing.T) { // P15.1, R3
	m, v := of(1, 2, 1, 1, 0, 1), vec(1, 0, 1)
	seq, e := krylov.Sequence(m, v)
	m.Num[0][1], v.Num[0].Mag, v.Num[1] = zint.Of(9), api.Nat{9}, zint.Of(9)
	text, count := "", 0
	for x := range seq {
		for y := range seq {
			text += fmt.Sprint(large(y.Num[0]))
			break
		}
		text += fmt.Sprint(" ", large(x.Num[0]), ", ")
		x.Num[0], x.Num[1] = zint.Of(7), api.Int{}
		if count++; count == 4 {
			break
		}
	}
	if text != "0 0, 0 1, 0 2, 0 3, " || e != api.OK {
		t.Errorf("Sequence: %s", text)
	}
}

func TestFaults(t *testing.T) { // the errors, in their order
	ragged := api.Mat{Den: zint.Of(1), Num: [][]api.Int{{zint.Of(1)}, {}}}
	good, ok, none := of(1, 2, 1, 2, 3, 4), vec(1, 1, 2), api.Space{N: 2, Basis: of(1, 1)}
	noDen, short := api.Vec{Num: []api.Int{{}}}, vec(1, 1)
	long := api.Vec{Den: zint.Of(1), Num: []api.Int{{}, bits(4096)}}
	under := api.Vec{Den: bits(4096), Num: []api.Int{{}, zint.Of(3)}}
	type call = func(m api.Mat, v api.Vec) (any, api.Errno)
	calls := map[string]call{
		"Sequence":  func(m api.Mat, v api.Vec) (any, api.Errno) { x, e := krylov.Sequence(m, v); return x != nil, e },
		"MinPoly":   func(m api.Mat, v api.Vec) (any, api.Errno) { x, e := krylov.MinPoly(m, v); return x, e },
		"Basis":     func(m api.Mat, v api.Vec) (any, api.Errno) { x, e := krylov.Basis(m, v); return x, e },
		"Cyclic":    func(m api.Mat, v api.Vec) (any, api.Errno) { x, e := krylov.Cyclic(m, v); return x, e },
		"Conductor": func(m api.Mat, v api.Vec) (any, api.Errno) { x, e := krylov.Conductor(m, v, none); return x, e },
		"Closure":   func(m api.Mat, v api.Vec) (any, api.Errno) { x, e := krylov.Closure(m, ok, v); return x, e },
		"Closure 1": func(m api.Mat, v api.Vec) (any, api.Errno) { x, e := krylov.Closure(m, v, ok); return x, e },
		"Express":   func(m api.Mat, v api.Vec) (any, api.Errno) { x, _, e := krylov.Express(m, v, ok); return x, e },
		"Express 2": func(m api.Mat, v api.Vec) (any, api.Errno) { x, _, e := krylov.Express(m, ok, v); return x, e },
	}
	for what, f := range calls {
		for _, c := range []struct {
			m api.Mat
			e api.Errno
		}{
			{api.Mat{}, api.ErrDen}, {api.Mat{Num: ragged.Num}, api.ErrDen}, {ragged, api.ErrShape}, {of(1, 2, 1, 2), api.ErrNotSquare}, {of(1, 1), api.ErrNotSquare}, {of(1, 1, 1, 2), api.ErrNotSquare},
			{of(1, 25, make([]int64, 625)...), api.ErrTooBig}, {api.Mat{Den: zint.Of(1), Num: [][]api.Int{{bits(4096)}}}, api.ErrTooBig},
		} {
			x, e := f(c.m, noDen)
			fault(t, what, e, c.e, x)
		}
		for _, c := range []struct {
			v api.Vec
			e api.Errno
		}{{noDen, api.ErrDen}, {short, api.ErrShape}, {vec(1, 1, 2, 3), api.ErrShape}, {long, api.ErrTooBig}, {under, api.ErrTooBig}} {
			x, e := f(good, c.v)
			fault(t, what, e, c.e, x)
		}
	}
	x, e := krylov.Closure(good, long, short, noDen)
	fault(t, "Closure", e, api.ErrDen, x)
	x, e = krylov.Closure(good, long, short)
	fault(t, "Closure", e, api.ErrShape, x)
	f, _, e := krylov.Express(good, long, short)
	fault(t, "Express", e, api.ErrShape, f)
	f, _, e = krylov.Express(good, short, noDen)
	fault(t, "Express", e, api.ErrDen, f)
	for _, c := range []struct {
		v api.Vec
		s api.Space
		e api.Errno
	}{
		{noDen, api.Space{N: -1}, api.ErrDen}, {short, api.Space{N: -1}, api.ErrArg}, {short, api.Space{N: 1001}, api.ErrTooBig}, {short, api.Space{N: 2}, api.ErrDen}, {long, api.Space{N: 1, Basis: of(1, 2, 1, 0)}, api.ErrShape},
		{long, api.Space{N: 2, Basis: of(1, 2, 2, 0)}, api.ErrSpace}, {long, api.Space{N: 3, Basis: of(1, 1)}, api.ErrShape}, {short, none, api.ErrShape}, {long, api.Space{N: 2, Basis: of(1, 2, 1, 0)}, api.ErrTooBig}, {ok, api.Space{N: 2, Basis: of(1, 2, 1, 0)}, api.ErrSpace},
	} {
		f, e := krylov.Conductor(good, c.v, c.s)
		fault(t, fmt.Sprint("Conductor ", c.s), e, c.e, f)
	}
	even := api.Vec{Den: bits(4200), Num: []api.Int{bits(4201), {}}}
	f, e = krylov.MinPoly(of(1, 2, 1, 1, 0, 2), even)
	wantPoly(t, "MinPoly of 2^4201 over 2^4200", f, e, listPoly(coeffs(-1, 1)))
}

func TestLarge(t *testing.T) { // 24 rows
	l := make([]int64, 24*24)
	for i := range l {
		l[i] = int64((i*i*7+i*3)%19 - 9)
	}
	m := of(1, 24, l...)
	v := vec(1, append([]int64{1}, make([]int64, 23)...)...)
	f, e := krylov.MinPoly(m, v)
	if len(f) < 2 || e != api.OK {
		t.Fatalf("MinPoly of 24 rows: %d", e)
	}
	sum := listVec(vec(1, make([]int64, 24)...))
	for i := len(f) - 1; i >= 0; i-- {
		sum = apply(list(m), sum)
		for k := range sum {
			sum[k].Add(sum[k], new(big.Rat).Mul(listPoly(f)[i], listVec(v)[k]))
		}
	}
	if !isZero(table{sum}) {
		t.Error("MinPoly of 24 rows")
	}
}

func TestMemory(t *testing.T) { // R3
	r := rand.New(rand.NewSource(4))
	for range 20 {
		m, v, w := derogatory(r, 4), someVec(r, 4), someVec(r, 4)
		s, _ := krylov.Cyclic(m, w)
		given := []any{m, v, w, s}
		for what, call := range map[string]func() []any{
			"MinPoly":   func() []any { x, _ := krylov.MinPoly(m, v); return []any{x} },
			"Basis":     func() []any { x, _ := krylov.Basis(m, v); return []any{x} },
			"Cyclic":    func() []any { x, _ := krylov.Cyclic(m, v); return []any{x} },
			"Conductor": func() []any { x, _ := krylov.Conductor(m, v, s); return []any{x} },
			"Closure":   func() []any { x, _ := krylov.Closure(m, v, w); return []any{x} },
			"Express":   func() []any { x, ok, _ := krylov.Express(m, v, w); return []any{x, ok} },
			"Sequence": func() []any {
				seq, _ := krylov.Sequence(m, v)
				var out []any
				for x := range seq {
					if out = append(out, x); len(out) == 4 {
						break
					}
				}
				return out
			},
		} {
			memory(t, what, given, call)
		}
	}
}
