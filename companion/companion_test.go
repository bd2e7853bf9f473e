package companion_test

import (
	"fmt"
	"math/big"
	"math/rand"
	"testing"

	"simile/api"
	"simile/companion"
	"simile/qmat"
	"simile/qpoly"
	"simile/zint"
)

// someMonic tells a monic polynomial in any form.
func someMonic(r *rand.Rand, d int) api.Poly {
	var out api.Poly
	for range d {
		out = append(out, api.Rat{Num: someInt(r), Den: someDen(r)})
	}
	out = append(out, ratio(-3, -3))
	for range r.Intn(2) {
		out = append(out, ratio(0, -5))
	}
	return out
}

// sum: the direct sum just as the document says it.
func sum(l ...poly) table {
	n := 0
	for _, f := range l {
		n += len(f) - 1
	}
	out := make(table, n)
	for i := range out {
		for range n {
			out[i] = append(out[i], new(big.Rat))
		}
	}
	at := 0
	for _, f := range l {
		d := len(f) - 1
		for i := range d {
			if i > 0 {
				out[at+i][at+i-1] = big.NewRat(1, 1)
			}
			out[at+i][at+d-1] = new(big.Rat).Neg(f[i])
		}
		at += d
	}
	return out
}

func TestOf(t *testing.T) { // P17.1, P17.4
	r := rand.New(rand.NewSource(1))
	for range 100 {
		d := r.Intn(5) + 1
		f := someMonic(r, d)
		m, e := companion.Of(f)
		wantMat(t, "Of", m, e, sum(listPoly(f)))
		if !isZero(at(listPoly(f), list(m))) {
			t.Errorf("%v at its companion matrix", f)
		}
		if min := minimalOf(list(m)); fmt.Sprint(min) != fmt.Sprint(listPoly(f)) {
			t.Errorf("the minimal polynomial of the companion matrix of %v: %v", f, min)
		}
	}
	m, e := companion.Of(coeffs(6, -5, 1))
	wantMat(t, "Of(x^2 - 5x + 6)", m, e, list(of(1, 2, 0, -6, 1, 5)))
	m, e = companion.Of(coeffs(-7, 1))
	wantMat(t, "Of(x - 7)", m, e, list(of(1, 1, 7)))
}

func TestSum(t *testing.T) { // P17.1, P17.2, P17.3, P17.5
	r := rand.New(rand.NewSource(2))
	for range 200 {
		var l []api.Poly
		var w []poly
		product := poly{big.NewRat(1, 1)}
		for range r.Intn(4) {
			f := someMonic(r, r.Intn(3)+1)
			if len(l) > 0 && r.Intn(2) == 0 {
				f, _ = qpoly.Mul(l[len(l)-1], someMonic(r, r.Intn(2)))
			}
			l = append(l, f)
			w = append(w, listPoly(f))
			product = polyTimes(product, listPoly(f))
		}
		m, e := companion.Sum(l...)
		wantMat(t, "Sum", m, e, sum(w...))
		char, e := companion.Char(l...)
		wantPoly(t, "Char", char, e, product)
		chain := true
		for i := 1; i < len(w); i++ {
			chain = chain && len(polyRest(w[i], w[i-1])) == 0
		}
		if is, e := companion.Chain(l...); is != chain || e != api.OK {
			t.Errorf("Chain(%v): %t, %d", w, is, e)
		}
		dims := 0
		for _, f := range l {
			for _, g := range l {
				common, _ := qpoly.Gcd(f, g)
				dims += len(common) - 1
			}
		}
		n, e := companion.Commuting(l...)
		if chain && (n != dims || e != api.OK) || !chain && (n != 0 || e != api.ErrCompanion) {
			t.Errorf("Commuting(%v): %d, %d, want %d", w, n, e, dims)
		}
		if len(l) == 0 {
			continue
		}
		m.Den = zint.Mul(m.Den, zint.Of(-2))
		for _, row := range m.Num {
			for k := range row {
				row[k] = zint.Mul(row[k], zint.Of(-2))
			}
		}
		back, ok, e := companion.Read(m)
		if !ok || len(back) != len(l) {
			t.Fatalf("Read(%v): %v, %t, %d", m, back, ok, e)
		}
		for i, f := range back {
			wantPoly(t, "Read", f, e, w[i])
		}
		if is, e := companion.IsForm(m); is != chain || e != api.OK {
			t.Errorf("IsForm(%v): %t", m, is)
		}
		i, k := r.Intn(len(m.Num)), r.Intn(len(m.Num))
		m.Num[i][k] = zint.Add(m.Num[i][k], zint.Of(1)) // one entry is another one
		back, ok, e = companion.Read(m)
		if !ok {
			fault(t, "Read", e, api.OK, back)
			continue
		}
		var read []poly
		for _, f := range back {
			read = append(read, listPoly(f))
		}
		if fmt.Sprint(sum(read...)) != fmt.Sprint(list(m)) {
			t.Errorf("Read(%v): %v", m, read)
		}
	}
}

func TestExamples(t *testing.T) {
	l, ok, e := companion.Read(of(1, 2, 2, 0, 0, 3))
	if len(l) != 2 || !ok {
		t.Fatalf("Read: %v", l)
	}
	wantPoly(t, "Read", l[0], e, listPoly(coeffs(-2, 1)))
	wantPoly(t, "Read", l[1], e, listPoly(coeffs(-3, 1)))
	if is, _ := companion.Chain(l...); is {
		t.Error("Chain(x - 2, x - 3)")
	}
	if is, _ := companion.IsForm(of(1, 2, 2, 0, 0, 3)); is {
		t.Error("IsForm([2 0; 0 3])")
	}
	if is, _ := companion.IsForm(of(1, 2, 2, 0, 0, 2)); !is {
		t.Error("IsForm([2 0; 0 2])")
	}
	if n, e := companion.Commuting(coeffs(0, 1), coeffs(0, 0, 1)); n != 5 || e != api.OK {
		t.Errorf("Commuting(x, x^2): %d", n)
	}
	for _, m := range []api.Mat{of(1, 2, 0, 1, 0, 0), of(1, 2, 0, 0, 2, 0), of(1, 2, 1, 0, 1, 0), of(1, 3, 0, 0, 1, 1, 0, 0, 1, 1, 0), of(1, 3, 0, 5, 1, 1, 0, 0, 0, 0, 0), of(2, 2, 0, 0, 1, 0)} {
		l, ok, e := companion.Read(m)
		fault(t, "Read of what is none", e, api.OK, l, ok)
	}
	m, e := companion.Sum()
	wantMat(t, "Sum of none", m, e, nil)
	char, e := companion.Char()
	wantPoly(t, "Char of none", char, e, listPoly(coeffs(1)))
	is, e := companion.Chain()
	n, e2 := companion.Commuting()
	if !is || n != 0 || e != api.OK || e2 != api.OK {
		t.Errorf("Chain, Commuting of none: %t, %d", is, n)
	}
}

func TestFaults(t *testing.T) { // the errors, in their order
	long := make(api.Poly, 26)
	for i := range long {
		long[i] = ratio(0, 1)
	}
	long[25] = ratio(1, 1)
	noDen, x := append(coeffs(0, 1), api.Rat{}), coeffs(0, 1)
	for what, call := range map[string]func(l ...api.Poly) (any, api.Errno){
		"Sum":       func(l ...api.Poly) (any, api.Errno) { x, e := companion.Sum(l...); return x, e },
		"Chain":     func(l ...api.Poly) (any, api.Errno) { x, e := companion.Chain(l...); return x, e },
		"Char":      func(l ...api.Poly) (any, api.Errno) { x, e := companion.Char(l...); return x, e },
		"Commuting": func(l ...api.Poly) (any, api.Errno) { x, e := companion.Commuting(l...); return x, e },
		"Of": func(l ...api.Poly) (any, api.Errno) {
			for _, f := range l {
				if x, e := companion.Of(f); e == api.ErrDen || len(l) == 1 {
					return x, e
				}
			}
			x, e := companion.Sum(l...)
			return x, e
		},
	} {
		for _, c := range []struct {
			l []api.Poly
			e api.Errno
		}{
			{[]api.Poly{coeffs(0, 2), noDen}, api.ErrDen}, {[]api.Poly{long, coeffs(0, 2)}, api.ErrCompanion}, {[]api.Poly{nil}, api.ErrCompanion}, {[]api.Poly{coeffs(1)}, api.ErrCompanion}, {[]api.Poly{coeffs(0, 2)}, api.ErrCompanion},
			{[]api.Poly{x, coeffs(1, 0)}, api.ErrCompanion}, {[]api.Poly{coeffs(1, -1)}, api.ErrCompanion}, {[]api.Poly{long}, api.ErrTooBig}, {[]api.Poly{x, x, long[2:]}, api.ErrTooBig}, {[]api.Poly{coeffs(1, 1), long}, api.ErrTooBig},
		} {
			got, e := call(c.l...)
			fault(t, fmt.Sprint(what, " of ", len(c.l)), e, c.e, got)
		}
		if _, e := call(x, long[2:]); e != api.OK {
			t.Errorf("%s of 24: %d", what, e)
		}
	}
	ragged := api.Mat{Den: zint.Of(1), Num: [][]api.Int{{zint.Of(1)}, {}}}
	for _, c := range []struct {
		m api.Mat
		e api.Errno
	}{
		{api.Mat{}, api.ErrDen}, {api.Mat{Num: ragged.Num}, api.ErrDen}, {ragged, api.ErrShape}, {of(1, 2, 1, 2), api.ErrNotSquare}, {of(1, 1), api.ErrNotSquare}, {of(1, 1, 1, 2), api.ErrNotSquare},
		{of(1, 25, make([]int64, 625)...), api.ErrTooBig}, {api.Mat{Den: zint.Of(1), Num: [][]api.Int{{bits(4096)}}}, api.ErrTooBig},
	} {
		l, ok, e := companion.Read(c.m)
		fault(t, "Read", e, c.e, l, ok)
		is, e := companion.IsForm(c.m)
		fault(t, "IsForm", e, c.e, is)
	}
	huge := api.Poly{{Num: bits(9000), Den: zint.Of(1)}, ratio(1, 1)} // no limit of bits here
	if m, e := companion.Of(huge); e != api.OK || len(m.Num) != 1 {
		t.Errorf("Of of 9001 bits: %d", e)
	}
}

func TestMemory(t *testing.T) { // R3
	r := rand.New(rand.NewSource(3))
	for range 20 {
		f := someMonic(r, 2)
		g, _ := qpoly.Mul(f, someMonic(r, 1))
		m, _ := companion.Sum(f, g)
		m, _ = qmat.Norm(m)
		given := []any{f, g, m}
		for what, call := range map[string]func() []any{
			"Of":   func() []any { x, _ := companion.Of(f); return []any{x} },
			"Sum":  func() []any { x, _ := companion.Sum(f, g); y, _ := companion.Sum(f); return []any{x, y} },
			"Char": func() []any { x, _ := companion.Char(f, g); y, _ := companion.Char(f); return []any{x, y} },
			"Read": func() []any { x, ok, _ := companion.Read(m); y, _ := companion.IsForm(m); return []any{x, ok, y} },
			"Chain": func() []any {
				x, _ := companion.Chain(f, g)
				y, _ := companion.Commuting(f, g)
				return []any{x, y}
			},
		} {
			memory(t, what, given, call)
		}
	}
}
