package minpoly_test

import (
	"fmt"
	"math"
	"math/big"
	"math/rand"
	"testing"

	"simile/api"
	"simile/evalm"
	"simile/krylov"
	"simile/minpoly"
	"simile/qmat"
	"simile/qpoly"
	"simile/space"
	"simile/zint"
)

// derogatory tells a matrix with blocks along the diagonal, some of them twice, in another basis now and then.
func derogatory(r *rand.Rand, n int) api.Mat {
	m := some(r, n, n)
	for i := range n {
		for k := range n {
			if i/2 != k/2 || r.Intn(4) == 0 {
				m.Num[i][k] = api.Int{}
			}
		}
		if r.Intn(2) == 0 {
			m.Num[i][i] = m.Num[0][0]
		}
	}
	if r.Intn(2) == 0 {
		return m
	}
	return conjugated(r, m)
}

// conjugated: the same matrix in another basis.
func conjugated(r *rand.Rand, m api.Mat) api.Mat {
	n := len(m.Num)
	s, _ := qmat.Identity(n)
	back, _ := qmat.Identity(n)
	for range 3 {
		i, k, c := r.Intn(n), r.Intn(n), int64(r.Intn(3)-1)
		if i == k {
			continue
		}
		step, _ := qmat.Identity(n)
		step.Num[i][k] = zint.Of(c)
		undo, _ := qmat.Identity(n)
		undo.Num[i][k] = zint.Of(-c)
		s, _ = qmat.Mul(s, step)
		back, _ = qmat.Mul(undo, back)
	}
	out, _ := qmat.Mul(back, m)
	out, _ = qmat.Mul(out, s)
	return out
}

func apply(m table, v []*big.Rat) []*big.Rat { return turned(times(m, turned(table{v})))[0] }

func TestOf(t *testing.T) { // P16.1, P16.2, P16.3, P16.9, P16.12
	r := rand.New(rand.NewSource(1))
	for k := range 250 {
		n := r.Intn(5) + 1
		m := derogatory(r, n)
		if k%4 == 0 {
			m = some(r, n, n)
		}
		w := minimalOf(list(m))
		got, e := minpoly.Of(m)
		wantPoly(t, fmt.Sprint("Of ", m), got, e, w)
		if d, e := minpoly.Degree(m); d != len(w)-1 || e != api.OK {
			t.Errorf("Degree(%v): %d, %d", m, d, e)
		}
		v, e := minpoly.Vector(m)
		wantVec(t, "Vector", v, e, listVec(v))
		local, e := krylov.MinPoly(m, v)
		wantPoly(t, fmt.Sprint("MinPoly of Vector ", m), local, e, w)
		var units []api.Vec
		for i := range n {
			l := make([]int64, n)
			l[i] = 1
			units = append(units, vec(1, l...))
		}
		got, e = minpoly.Local(m, units...)
		wantPoly(t, "Local of all unit vectors", got, e, w)
		u, u2 := someVec(r, n), someVec(r, n)
		one, e := minpoly.Local(m, u)
		both, _ := minpoly.Local(m, u, u2)
		f, _ := krylov.MinPoly(m, u)
		g, _ := krylov.MinPoly(m, u2)
		lcm, _ := qpoly.Lcm(f, g)
		wantPoly(t, "Local of one", one, e, listPoly(f))
		wantPoly(t, "Local of two", both, e, listPoly(lcm))
		if len(polyRest(w, listPoly(both))) > 0 {
			t.Errorf("Local(%v) does not divide Of", both)
		}
		other, _ := qmat.Transpose(m)
		got, e = minpoly.Of(other)
		wantPoly(t, "Of the transpose", got, e, w)
		got, e = minpoly.Of(conjugated(r, m))
		wantPoly(t, "Of what is similar", got, e, w)
	}
}

func TestReckoning(t *testing.T) { // P16.4, P16.5, P16.6, P16.10
	r := rand.New(rand.NewSource(2))
	for range 150 {
		n := r.Intn(4) + 1
		m, f := derogatory(r, n), somePoly(r, 7)
		d, _ := minpoly.Degree(m)
		rest, e := minpoly.Rest(m, f)
		wantPoly(t, "Rest", rest, e, polyRest(listPoly(f), minimalOf(list(m))))
		if len(rest) > d {
			t.Errorf("Rest(%v, %v): %v", m, f, rest)
		}
		k := r.Intn(9)
		power, e := minpoly.Power(m, k)
		w := unit(n)
		for range k {
			w = times(w, list(m))
		}
		if wantPoly(t, "Power", power, e, listPoly(power)); len(power) > d || !isZero(plus(at(listPoly(power), list(m)), w, big.NewRat(-1, 1))) {
			t.Errorf("Power(%v, %d): %v", m, k, power)
		}
		inverse, e := minpoly.Inverse(m)
		if len(reduced(list(m))) < n {
			fault(t, "Inverse", e, api.ErrSingular, inverse)
		} else if wantPoly(t, "Inverse", inverse, e, listPoly(inverse)); len(inverse) > d || !isZero(plus(times(at(listPoly(inverse), list(m)), list(m)), unit(n), big.NewRat(-1, 1))) {
			t.Errorf("Inverse(%v): %v", m, inverse)
		}
	}
	m := of(1, 2, 1, 1, 0, 1)
	for _, k := range []int{-1, 1001, math.MinInt, math.MaxInt} {
		f, e := minpoly.Power(m, k)
		fault(t, "Power", e, api.ErrArg, f)
	}
	f, e := minpoly.Power(m, 1000)
	wantPoly(t, "Power(1000)", f, e, listPoly(coeffs(-999, 1000)))
	f, e = minpoly.Power(of(1, 1, 0), 0)
	wantPoly(t, "Power(0) of 0", f, e, listPoly(coeffs(1)))
}

func TestKinds(t *testing.T) { // P16.7
	r := rand.New(rand.NewSource(3))
	for k := range 200 {
		n := r.Intn(5) + 1
		m := derogatory(r, n)
		if k%2 == 0 {
			for i := range n {
				for j := range i + 1 {
					m.Num[i][j] = api.Int{}
				}
			}
			m = conjugated(r, m)
		}
		w, power := 0, unit(n)
		for i := range n {
			if power = times(power, list(m)); isZero(power) {
				w = i + 1
				break
			}
		}
		if got, ok, e := minpoly.Nilpotent(m); got != w || ok != (w > 0) || e != api.OK {
			t.Errorf("Nilpotent(%v): %d, %t", m, got, ok)
		}
		f := minimalOf(list(m))
		slope := poly{}
		for i := 1; i < len(f); i++ {
			slope = append(slope, new(big.Rat).Mul(f[i], big.NewRat(int64(i), 1)))
		}
		a, b := f, trimmed(slope)
		for len(b) > 0 {
			a, b = b, polyRest(a, b)
		}
		if got, e := minpoly.Semisimple(m); got != (len(a) == 1) || e != api.OK {
			t.Errorf("Semisimple(%v): %t", m, got)
		}
	}
}

func TestParts(t *testing.T) { // P16.8, P16.11
	r := rand.New(rand.NewSource(4))
	for range 150 {
		n := r.Intn(5) + 1
		m := derogatory(r, n)
		f, _ := minpoly.Of(m)
		_, w, _ := qpoly.Squarefree(f)
		parts, spaces, e := minpoly.Parts(m)
		if len(parts) != len(w) || len(spaces) != len(w) || e != api.OK {
			t.Fatalf("Parts(%v): %v, %v, %d", m, parts, spaces, e)
		}
		sum, dims := api.Space{N: n, Basis: of(1, 1)}, 0
		for i, p := range parts {
			wantPoly(t, "Parts", p.Poly, e, listPoly(w[i].Poly))
			power := coeffs(1)
			for range w[i].Times {
				power, _ = qpoly.Mul(power, w[i].Poly)
			}
			s, _ := evalm.Kernel(power, m)
			if same, e := space.Equal(s, spaces[i]); !same || e != api.OK || p.Times != w[i].Times || !sameRows(spaces[i].Basis.Den, spaces[i].Basis.Num, list(s.Basis)) {
				t.Errorf("Parts(%v): %v, %v", m, p, spaces[i])
			}
			stays, _ := space.Stays(m, spaces[i])
			meet, _ := space.Meet(sum, spaces[i])
			if !stays || len(meet.Basis.Num) > 0 {
				t.Errorf("Parts(%v): %v", m, spaces[i])
			}
			sum, _ = space.Sum(sum, spaces[i])
			dims += len(spaces[i].Basis.Num)
		}
		if dims != n {
			t.Errorf("Parts(%v) make %d", m, dims)
		}
	}
}

func TestExamples(t *testing.T) {
	for _, c := range []struct {
		m api.Mat
		f api.Poly
	}{{of(1, 2, 2, 0, 0, 2), coeffs(-2, 1)}, {of(1, 2, 1, 1, 0, 1), coeffs(1, -2, 1)}, {of(1, 2, 0, 1, -1, 0), coeffs(1, 0, 1)}, {of(7, 3, make([]int64, 9)...), coeffs(0, 1)}} {
		f, e := minpoly.Of(c.m)
		wantPoly(t, "Of", f, e, listPoly(c.f))
	}
	v, e := minpoly.Vector(of(1, 2, 2, 0, 0, 2))
	if isZero(table{listVec(v)}) || e != api.OK {
		t.Errorf("Vector: %v", v)
	}
	m := of(1, 2, 1, 0, 0, 2)
	f, e := minpoly.Local(m, vec(1, 1, 0))
	wantPoly(t, "Local", f, e, listPoly(coeffs(-1, 1)))
	f, e = minpoly.Local(m)
	wantPoly(t, "Local of none", f, e, listPoly(coeffs(1)))
	f, e = minpoly.Local(m, vec(3, 0, 0), vec(1, 0, 0))
	wantPoly(t, "Local of 0", f, e, listPoly(coeffs(1)))
	turn := of(1, 2, 0, 1, -1, 0)
	f, e = minpoly.Rest(turn, coeffs(0, 0, 0, 1))
	wantPoly(t, "Rest", f, e, listPoly(coeffs(0, -1)))
	f, e = minpoly.Inverse(turn)
	wantPoly(t, "Inverse", f, e, listPoly(coeffs(0, -1)))
	f, e = minpoly.Inverse(of(1, 2, 2, 0, 0, 2))
	wantPoly(t, "Inverse", f, e, poly{big.NewRat(1, 2)})
	f, e = minpoly.Inverse(of(1, 1, 0))
	fault(t, "Inverse", e, api.ErrSingular, f)
	f, e = minpoly.Power(of(1, 2, 1, 1, 0, 1), 5)
	wantPoly(t, "Power", f, e, listPoly(coeffs(-4, 5)))
	if k, ok, _ := minpoly.Nilpotent(of(1, 2, 0, 1, 0, 0)); k != 2 || !ok {
		t.Errorf("Nilpotent: %d, %t", k, ok)
	}
	if k, ok, _ := minpoly.Nilpotent(of(1, 1, 1)); k != 0 || ok {
		t.Errorf("Nilpotent: %d, %t", k, ok)
	}
	if is, _ := minpoly.Semisimple(of(1, 2, 1, 1, 0, 1)); is {
		t.Error("Semisimple")
	}
	parts, spaces, e := minpoly.Parts(of(1, 2, 1, 0, 0, 0))
	if len(parts) != 1 || parts[0].Times != 1 || len(spaces[0].Basis.Num) != 2 {
		t.Fatalf("Parts: %v, %v", parts, spaces)
	}
	wantPoly(t, "Parts", parts[0].Poly, e, listPoly(coeffs(0, -1, 1)))
}

func TestFaults(t *testing.T) { // the faults of the arguments from the left
	ragged := api.Mat{Den: zint.Of(1), Num: [][]api.Int{{zint.Of(1)}, {}}}
	bad := []struct {
		m api.Mat
		e api.Errno
	}{
		{api.Mat{}, api.ErrDen}, {api.Mat{Num: ragged.Num}, api.ErrDen}, {ragged, api.ErrShape}, {of(1, 2, 1, 2), api.ErrNotSquare}, {of(1, 1), api.ErrNotSquare}, {of(1, 1, 1, 2), api.ErrNotSquare},
		{of(1, 25, make([]int64, 625)...), api.ErrTooBig}, {api.Mat{Den: zint.Of(1), Num: [][]api.Int{{bits(4096)}}}, api.ErrTooBig},
	}
	for what, call := range map[string]func(m api.Mat) ([]any, api.Errno){
		"Of":         func(m api.Mat) ([]any, api.Errno) { x, e := minpoly.Of(m); return []any{x}, e },
		"Degree":     func(m api.Mat) ([]any, api.Errno) { x, e := minpoly.Degree(m); return []any{x}, e },
		"Vector":     func(m api.Mat) ([]any, api.Errno) { x, e := minpoly.Vector(m); return []any{x}, e },
		"Local":      func(m api.Mat) ([]any, api.Errno) { x, e := minpoly.Local(m, api.Vec{}); return []any{x}, e },
		"Rest":       func(m api.Mat) ([]any, api.Errno) { x, e := minpoly.Rest(m, api.Poly{{}}); return []any{x}, e },
		"Inverse":    func(m api.Mat) ([]any, api.Errno) { x, e := minpoly.Inverse(m); return []any{x}, e },
		"Power":      func(m api.Mat) ([]any, api.Errno) { x, e := minpoly.Power(m, -1); return []any{x}, e },
		"Nilpotent":  func(m api.Mat) ([]any, api.Errno) { x, y, e := minpoly.Nilpotent(m); return []any{x, y}, e },
		"Semisimple": func(m api.Mat) ([]any, api.Errno) { x, e := minpoly.Semisimple(m); return []any{x}, e },
		"Parts":      func(m api.Mat) ([]any, api.Errno) { x, y, e := minpoly.Parts(m); return []any{x, y}, e },
	} {
		for _, c := range bad {
			x, e := call(c.m)
			fault(t, what, e, c.e, x...)
		}
	}
	good := of(1, 2, 1, 2, 3, 4)
	for _, c := range []struct {
		l []api.Vec
		e api.Errno
	}{
		{[]api.Vec{vec(1, 1, 2), {}}, api.ErrDen}, {[]api.Vec{vec(1, 1), {}}, api.ErrShape}, {[]api.Vec{{Den: zint.Of(1), Num: []api.Int{{}, bits(4096)}}, vec(1, 1)}, api.ErrTooBig}, {[]api.Vec{vec(1, 1, 2), {Den: bits(4096), Num: []api.Int{zint.Of(1), {}}}}, api.ErrTooBig},
	} {
		x, e := minpoly.Local(good, c.l...)
		fault(t, "Local", e, c.e, x)
	}
	long := make(api.Poly, 102)
	for i := range long {
		long[i] = ratio(0, 1)
	}
	long[101] = ratio(1, 1)
	for _, c := range []struct {
		f api.Poly
		e api.Errno
	}{{api.Poly{ratio(1, 0)}, api.ErrDen}, {long, api.ErrTooBig}, {api.Poly{{Num: bits(4096), Den: zint.Of(1)}}, api.ErrTooBig}} {
		x, e := minpoly.Rest(good, c.f)
		fault(t, "Rest", e, c.e, x)
	}
}

func TestLong(t *testing.T) { // numbers at the limit: what is reckoned with them is longer
	m := api.Mat{Den: zint.Of(1), Num: [][]api.Int{{bits(4095), zint.Of(1), {}, {}}, {{}, bits(4095), {}, {}}, {{}, {}, bits(4095), {}}, {{}, {}, {}, bits(4090)}}}
	w := poly{big.NewRat(1, 1)}
	for _, k := range []int{4095, 4095, 4090} {
		w = polyTimes(w, poly{new(big.Rat).SetInt(new(big.Int).Neg(large(bits(k)))), big.NewRat(1, 1)})
	}
	f, e := minpoly.Of(m)
	wantPoly(t, "Of numbers of 4096 bits", f, e, w)
	parts, spaces, e := minpoly.Parts(m)
	if len(parts) != 2 || parts[1].Times != 2 || len(spaces[0].Basis.Num) != 1 || len(spaces[1].Basis.Num) != 3 || e != api.OK {
		t.Errorf("Parts of numbers of 4096 bits: %d, %v", e, spaces)
	}
	inverse, e := minpoly.Inverse(m)
	if len(inverse) != 3 || e != api.OK {
		t.Errorf("Inverse of numbers of 4096 bits: %d", e)
	}
	v, _ := minpoly.Vector(m)
	sum := listVec(v)
	for _, k := range []int{4095, 4090} { // two of the three factors do not kill it
		scaled := apply(list(m), sum)
		for i := range scaled {
			scaled[i].Sub(scaled[i], new(big.Rat).Mul(new(big.Rat).SetInt(large(bits(k))), sum[i]))
		}
		sum = scaled
	}
	if isZero(table{sum}) {
		t.Error("Vector of numbers of 4096 bits")
	}
}

func TestMemory(t *testing.T) { // R3
	r := rand.New(rand.NewSource(5))
	for range 20 {
		m, v, w, f := derogatory(r, 4), someVec(r, 4), someVec(r, 4), append(somePoly(r, 5), coeffs(1, 1)...)
		given := []any{m, v, w, f}
		for what, call := range map[string]func() []any{
			"Of":      func() []any { x, _ := minpoly.Of(m); d, _ := minpoly.Degree(m); return []any{x, d} },
			"Vector":  func() []any { x, _ := minpoly.Vector(m); return []any{x} },
			"Local":   func() []any { x, _ := minpoly.Local(m, v, w); y, _ := minpoly.Local(m, v); return []any{x, y} },
			"Rest":    func() []any { x, _ := minpoly.Rest(m, f); y, _ := minpoly.Rest(m, f[:1]); return []any{x, y} },
			"Inverse": func() []any { x, _ := minpoly.Inverse(m); return []any{x} },
			"Power":   func() []any { x, _ := minpoly.Power(m, 3); y, _ := minpoly.Power(m, 0); return []any{x, y} },
			"Kinds":   func() []any { k, x, _ := minpoly.Nilpotent(m); y, _ := minpoly.Semisimple(m); return []any{k, x, y} },
			"Parts":   func() []any { x, y, _ := minpoly.Parts(m); return []any{x, y} },
		} {
			memory(t, what, given, call)
		}
	}
}
