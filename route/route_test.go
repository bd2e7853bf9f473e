package route_test

import (
	"fmt"
	"math/rand"
	"slices"
	"testing"

	"simile/api"
	"simile/modroute"
	"simile/route"
	"simile/zint"
)

var names = []string{"berkowitz", "interpolated", "leverrier", "smith", "factors", "modular"}

func TestNames(t *testing.T) { // P26.1
	got := route.Names()
	if !slices.Equal(got, names) {
		t.Errorf("Names: %v", got)
	}
	got[0] = "x"
	if !slices.Equal(route.Names(), names) {
		t.Error("Names shares memory")
	}
	for _, name := range names {
		r, e := route.Get(name)
		if e != api.OK || r.Name() != name {
			t.Fatalf("Get(%q): %v, %d", name, r, e)
		}
		if _, ok := r.(route.Certified); ok != (name == "modular") {
			t.Errorf("Get(%q) is certified: %t", name, ok)
		}
	}
	for _, name := range []string{"", "x", "Modular", "modular "} {
		if r, e := route.Get(name); r != nil || e != api.ErrRoute {
			t.Errorf("Get(%q): %v, %d", name, r, e)
		}
	}
}

func TestRoads(t *testing.T) { // P26.1, P26.2, P26.4, P26.5, P26.8, P26.9
	r := rand.New(rand.NewSource(1))
	for range 60 {
		n := r.Intn(4) + 1
		m := some(r, n, n)
		w := charOf(list(m))
		all, e := route.All(m)
		if e != api.OK {
			t.Fatalf("All: %d", e)
		}
		var by []string
		for a := range all {
			by = append(by, a.By())
			checkAnswer(t, m, a, a.By(), w)
		}
		if !slices.Equal(by, names) {
			t.Errorf("All: %v", by)
		}
		for _, name := range names {
			road, _ := route.Get(name)
			f, e := road.Char(m)
			wantPoly(t, name, f, e, w)
			a, e := route.Ask(name, m)
			if e != api.OK {
				t.Fatalf("Ask(%q): %d", name, e)
			}
			checkAnswer(t, m, a, name, w)
		}
		if agree, e := route.Agree(m); !agree || e != api.OK {
			t.Errorf("Agree(%v): %t, %d", m, agree, e)
		}
		f, what, e := route.Minimal(m)
		if wantPoly(t, "Minimal", f, e, minimalOf(list(m))); what != "factors" {
			t.Errorf("Minimal by %q", what)
		}
	}
}

// checkAnswer holds an answer against what it promises.
func checkAnswer(t *testing.T, m api.Mat, a route.Answer, by string, w poly) {
	t.Helper()
	if a.By() != by {
		t.Errorf("By: %q, want %q", a.By(), by)
	}
	f := a.Poly()
	wantPoly(t, by, f, api.OK, w)
	f[0].Num.Mag, f[0].Den = nil, api.Int{}
	f[len(f)-1].Num.Mag[0] = 77
	wantPoly(t, by+" again", a.Poly(), api.OK, w)
	p, ok := a.(route.Proof)
	if ok != (by == "modular") {
		t.Errorf("%s is a proof: %t", by, ok)
	}
	if !ok {
		return
	}
	_, cert, _ := modroute.Char(m)
	if fmt.Sprint(p.Cert()) != fmt.Sprint(cert) {
		t.Errorf("Cert: %v, want %v", p.Cert(), cert)
	}
	g, e := modroute.Lift(p.Cert())
	wantPoly(t, "Lift of Cert", g, e, w)
	spoilt := p.Cert()
	spoilt.D.Mag[0], spoilt.Bound.Mag[0], spoilt.Pairs[0].C[0], spoilt.Pairs[0].P = 9, 9, 9, 9
	if fmt.Sprint(p.Cert()) != fmt.Sprint(cert) {
		t.Error("Cert shares memory")
	}
}

func TestProve(t *testing.T) { // P26.3, P26.9
	m, bad := of(1, 2, 1, 2, 3, 4), of(1, 2, 1, 2)
	f, c, e := route.Prove("modular", m)
	g, cert, _ := modroute.Char(m)
	if wantPoly(t, "Prove", f, e, listPoly(g)); fmt.Sprint(c) != fmt.Sprint(cert) {
		t.Errorf("Prove: %v", c)
	}
	f, c, e = route.Prove("modular", bad)
	fault(t, "Prove", e, api.ErrNotSquare, f, c)
	f, c, e = route.Prove("x", bad)
	fault(t, "Prove", e, api.ErrRoute, f, c)
	for _, name := range names[:5] {
		for _, x := range []api.Mat{m, bad, {}} {
			f, c, e = route.Prove(name, x)
			fault(t, "Prove "+name, e, api.ErrRouteCert, f, c)
		}
	}
	r, _ := route.Get("modular")
	f, c, e = r.(route.Certified).Prove(m)
	if wantPoly(t, "Prove", f, e, listPoly(g)); fmt.Sprint(c) != fmt.Sprint(cert) {
		t.Errorf("Prove: %v", c)
	}
	f, c, e = r.(route.Certified).Prove(bad)
	fault(t, "Prove", e, api.ErrNotSquare, f, c)
}

func TestPick(t *testing.T) { // P26.6
	for _, c := range []struct {
		names []string
		want  string
	}{{[]string{"smith", "modular"}, "modular"}, {[]string{"smith", "factors"}, "smith"}, {[]string{"modular"}, "modular"}, {[]string{"modular", "smith"}, "modular"}, {[]string{"factors", "factors"}, "factors"}} {
		r, e := route.Pick(c.names...)
		if e != api.OK || r.Name() != c.want {
			t.Errorf("Pick(%v): %v, %d", c.names, r, e)
		}
		if _, ok := r.(route.Certified); ok != (c.want == "modular") {
			t.Errorf("Pick(%v) is certified: %t", c.names, ok)
		}
	}
	for _, l := range [][]string{nil, {"x"}, {"smith", "x"}, {"modular", ""}} {
		if r, e := route.Pick(l...); r != nil || e != api.ErrRoute {
			t.Errorf("Pick(%v): %v, %d", l, r, e)
		}
	}
}

func TestAllKeeps(t *testing.T) { // P26.4, R3
	m := of(1, 2, 1, 2, 3, 4)
	w := charOf(list(m))
	seq, _ := route.All(m)
	m.Num[0][0].Mag[0], m.Num[1], m.Den = 9, nil, api.Int{}
	count := 0
	for a := range seq {
		for b := range seq {
			wantPoly(t, "All nested", b.Poly(), api.OK, w)
			if count++; b.By() == a.By() {
				break
			}
		}
	}
	if count != 21 {
		t.Errorf("All nested: %d", count)
	}
}

func TestExamples(t *testing.T) {
	a, e := route.Ask("modular", of(1, 2, 1, 2, 3, 4))
	wantPoly(t, "Ask", a.Poly(), e, listPoly(coeffs(-2, -5, 1)))
	a, e = route.Ask("smith", of(1, 1, 1))
	wantPoly(t, "Ask", a.Poly(), e, listPoly(coeffs(-1, 1)))
	if a, e := route.Ask("smith", of(1, 2, 1, 2)); a != nil || e != api.ErrNotSquare {
		t.Errorf("Ask: %v, %d", a, e)
	}
	if a, e := route.Ask("x", of(1, 2, 1, 2)); a != nil || e != api.ErrRoute {
		t.Errorf("Ask: %v, %d", a, e)
	}
}

func TestLarge(t *testing.T) { // 12 rows; and 24 with many invariant factors
	r := rand.New(rand.NewSource(2))
	m := of(1, 24, make([]int64, 24*24)...)
	for i := range 24 {
		m.Num[i][i] = zint.Of(int64(i % 4))
	}
	if agree, e := route.Agree(m); !agree || e != api.OK {
		t.Errorf("Agree of 24 rows: %t, %d", agree, e)
	}
	if agree, e := route.Agree(some(r, 12, 12)); !agree || e != api.OK {
		t.Errorf("Agree of 12 rows: %t, %d", agree, e)
	}
}

func TestFaults(t *testing.T) { // the faults of a fit matrix
	ragged := api.Mat{Den: zint.Of(1), Num: [][]api.Int{{zint.Of(1)}, {}}}
	for _, c := range []struct {
		m api.Mat
		e api.Errno
	}{
		{api.Mat{}, api.ErrDen}, {api.Mat{Num: ragged.Num}, api.ErrDen}, {ragged, api.ErrShape}, {of(1, 2, 1, 2), api.ErrNotSquare}, {of(1, 1), api.ErrNotSquare}, {of(1, 1, 1, 2), api.ErrNotSquare},
		{of(1, 25, make([]int64, 625)...), api.ErrTooBig}, {api.Mat{Den: zint.Of(1), Num: [][]api.Int{{bits(4096)}}}, api.ErrTooBig},
	} {
		for _, name := range names {
			if a, e := route.Ask(name, c.m); a != nil || e != c.e {
				t.Errorf("Ask(%q): %v, %d, want %d", name, a, e, c.e)
			}
			r, _ := route.Get(name)
			f, e := r.Char(c.m)
			fault(t, "Char by "+name, e, c.e, f)
		}
		seq, e := route.All(c.m)
		if fault(t, "All", e, c.e); seq != nil {
			t.Error("All beside an error")
		}
		agree, e := route.Agree(c.m)
		fault(t, "Agree", e, c.e, agree)
		f, what, e := route.Minimal(c.m)
		fault(t, "Minimal", e, c.e, f, what)
	}
}

func TestMemory(t *testing.T) { // R3
	r := rand.New(rand.NewSource(3))
	for range 8 {
		m := some(r, 3, 3)
		given := []any{m}
		memory(t, "Agree, Minimal", given, func() []any {
			x, _ := route.Agree(m)
			y, z, _ := route.Minimal(m)
			return []any{x, y, z}
		})
		for _, name := range names {
			memory(t, name, given, func() []any {
				a, _ := route.Ask(name, m)
				road, _ := route.Get(name)
				f, _ := road.Char(m)
				return []any{a.Poly(), a.Poly(), f}
			})
		}
	}
}
