package simil_test

import (
	"fmt"
	"math/rand"
	"slices"
	"strings"
	"testing"

	"simile/api"
	"simile/bareiss"
	"simile/charfree"
	"simile/companion"
	"simile/frob"
	"simile/minpoly"
	"simile/numeral"
	"simile/qmat"
	"simile/simil"
	"simile/smith"
	"simile/zint"
)

// conjugated: the same matrix in another basis.
func conjugated(r *rand.Rand, m api.Mat, steps int) api.Mat {
	n := len(m.Num)
	for range steps {
		i, k := r.Intn(n), r.Intn(n)
		if i == k {
			continue
		}
		c := int64(r.Intn(3) - 1)
		step, _ := qmat.Identity(n)
		step.Num[i][k] = zint.Of(c)
		back, _ := qmat.Identity(n)
		back.Num[i][k] = zint.Of(-c)
		m, _ = qmat.Mul(back, m)
		m, _ = qmat.Mul(m, step)
	}
	return m
}

// family tells a matrix of which there are few classes.
func family(r *rand.Rand, n int) api.Mat {
	m, _ := qmat.Zero(n, n)
	for i := range n {
		m.Num[i][i] = zint.Of(int64(r.Intn(2)))
		if i+1 < n {
			m.Num[i][i+1] = zint.Of(int64(r.Intn(2)))
		}
	}
	if r.Intn(4) == 0 {
		m.Den = zint.Of(-2)
	}
	return conjugated(r, m, n)
}

// factorsOf: the invariant factors by the Smith form.
func factorsOf(m api.Mat) []poly {
	l, _ := smith.Factors(m)
	var out []poly
	for _, f := range l {
		out = append(out, listPoly(f))
	}
	return out
}

// checkConjugator: S and its inverse lead from a to b.
func checkConjugator(t *testing.T, a, b, s, inverse api.Mat) {
	t.Helper()
	wantMat(t, "S", s, api.OK, list(s))
	wantMat(t, "its inverse", inverse, api.OK, list(inverse))
	if len(s.Num) != len(a.Num) || fmt.Sprint(times(list(s), list(inverse))) != fmt.Sprint(unit(len(a.Num))) {
		t.Errorf("S %v and %v", s, inverse)
		return
	}
	if fmt.Sprint(times(list(inverse), times(list(a), list(s)))) != fmt.Sprint(list(b)) {
		t.Errorf("S^-1 %v S is not %v", a, b)
	}
}

func TestSimilar(t *testing.T) { // P24.1, P24.2, P24.3, P24.8, P24.9
	r := rand.New(rand.NewSource(1))
	for range 300 {
		n := r.Intn(4) + 1
		a, b := family(r, n), family(r, n)
		if r.Intn(4) == 0 {
			a = some(r, n, n)
			b = conjugated(r, a, 4)
		}
		x, y := factorsOf(a), factorsOf(b)
		same := fmt.Sprint(x) == fmt.Sprint(y)
		yes, s, inverse, e := simil.Similar(a, b)
		if yes != same || e != api.OK {
			t.Fatalf("Similar(%v, %v): %t, %d", a, b, yes, e)
		}
		if yes {
			checkConjugator(t, a, b, s, inverse)
		} else {
			fault(t, "Similar", e, api.OK, s, inverse)
		}
		back, s2, inverse2, _ := simil.Similar(b, a)
		if back != yes {
			t.Errorf("Similar(%v, %v) the other way round: %t", a, b, back)
		} else if yes {
			checkConjugator(t, b, a, s2, inverse2)
		}
		place, f, g, differ, e := simil.Differ(a, b)
		if differ == same || e != api.OK {
			t.Errorf("Differ(%v, %v): %t", a, b, differ)
		}
		checkDiffer(t, x, y, place, f, g, differ)
		key, e := simil.Key(a)
		key2, e2 := simil.Key(b)
		if (key == key2) != same || e != api.OK || e2 != api.OK || key != keyOf(x) {
			t.Errorf("Key(%v): %q, Key(%v): %q", a, key, b, key2)
		}
	}
}

// checkDiffer holds what Differ tells against the invariant factors.
func checkDiffer(t *testing.T, x, y []poly, place int, f, g api.Poly, differ bool) {
	t.Helper()
	at := func(l []poly, k int) poly {
		if k < len(l) {
			return l[len(l)-1-k]
		}
		return listPoly(coeffs(1))
	}
	for k := range max(len(x), len(y)) {
		if fmt.Sprint(at(x, k)) != fmt.Sprint(at(y, k)) {
			if !differ || place != k {
				t.Errorf("Differ of %v, %v: %d", x, y, place)
			}
			wantPoly(t, "Differ's first", f, api.OK, at(x, k))
			wantPoly(t, "Differ's second", g, api.OK, at(y, k))
			return
		}
	}
	fault(t, "Differ", api.OK, api.OK, place, f, g)
}

// keyOf: the text just as the chapter says it.
func keyOf(l []poly) string {
	var rows []string
	for _, f := range l {
		var texts []string
		for _, c := range f {
			texts = append(texts, c.RatString())
		}
		rows = append(rows, strings.Join(texts, " "))
	}
	return strings.Join(rows, "; ")
}

func TestConjugate(t *testing.T) { // P24.4, P24.9, P24.10
	r := rand.New(rand.NewSource(2))
	for range 150 {
		n := r.Intn(4) + 1
		m, s := some(r, n, n), some(r, n, n)
		got, e := simil.Conjugate(m, s)
		inverse, e2 := bareiss.Inverse(s)
		if e2 != api.OK {
			fault(t, "Conjugate", e, api.ErrSingular, got)
			continue
		}
		wantMat(t, "Conjugate", got, e, times(list(inverse), times(list(m), list(s))))
		yes, s2, inverse2, _ := simil.Similar(m, got)
		if !yes {
			t.Fatalf("Conjugate(%v, %v) is not similar", m, s)
		}
		checkConjugator(t, m, got, s2, inverse2)
		f, _ := charfree.Berkowitz(m)
		g, _ := charfree.Berkowitz(got)
		p, _ := minpoly.Of(m)
		q, _ := minpoly.Of(got)
		rank, _ := bareiss.Rank(m)
		rank2, _ := bareiss.Rank(got)
		if fmt.Sprint(listPoly(f), listPoly(p), rank) != fmt.Sprint(listPoly(g), listPoly(q), rank2) {
			t.Errorf("what stays of %v: %v, %v, %d", m, g, q, rank2)
		}
		mm, _ := qmat.Pow(m, 2)
		gg, _ := qmat.Pow(got, 2)
		if yes, _, _, _ := simil.Similar(mm, gg); !yes {
			t.Errorf("the squares of %v and %v", m, got)
		}
		ab, _ := qmat.Mul(s, m)
		ba, _ := qmat.Mul(m, s)
		if yes, _, _, _ := simil.Similar(ab, ba); !yes {
			t.Errorf("a b and b a of %v and %v", s, m)
		}
	}
}

func TestTransposer(t *testing.T) { // P24.5, P24.11
	r := rand.New(rand.NewSource(3))
	for range 100 {
		n := r.Intn(5) + 1
		m := family(r, n)
		if r.Intn(2) == 0 {
			m = some(r, n, n)
		}
		s, inverse, e := simil.Transposer(m)
		if e != api.OK {
			t.Fatalf("Transposer: %d", e)
		}
		turn, _ := qmat.Transpose(m)
		checkConjugator(t, m, turn, s, inverse)
	}
}

func TestClasses(t *testing.T) { // P24.6
	r := rand.New(rand.NewSource(4))
	for range 30 {
		var l []api.Mat
		for range r.Intn(12) {
			l = append(l, family(r, r.Intn(3)+1))
		}
		var w []int
		for i, m := range l {
			first := i
			for k := range i {
				if fmt.Sprint(factorsOf(l[k])) == fmt.Sprint(factorsOf(m)) {
					first = k
					break
				}
			}
			w = append(w, first)
		}
		got, e := simil.Classes(l...)
		if !slices.Equal(got, w) || e != api.OK {
			t.Errorf("Classes: %v, %d, want %v", got, e, w)
		}
	}
	got, e := simil.Classes()
	fault(t, "Classes of none", e, api.OK, got)
	many := make([]api.Mat, 51)
	for i := range many {
		many[i] = of(1, 1, int64(i%7))
	}
	got, e = simil.Classes(many[:50]...)
	if len(got) != 50 || got[49] != 0 || got[48] != 6 || e != api.OK {
		t.Errorf("Classes of 50: %v, %d", got, e)
	}
	got, e = simil.Classes(many...)
	fault(t, "Classes of 51", e, api.ErrTooBig, got)
	many[50] = of(1, 2, 1, 2)
	got, e = simil.Classes(many...)
	fault(t, "Classes of 51", e, api.ErrNotSquare, got)
	got, e = simil.Classes(of(1, 1, 0), of(1, 2, 0, 0, 0, 0), of(2, 1, 0))
	if !slices.Equal(got, []int{0, 1, 0}) || e != api.OK {
		t.Errorf("Classes of noughts: %v", got)
	}
}

func TestScaled(t *testing.T) { // P24.7
	for _, c := range []struct {
		m  api.Mat
		c  api.Rat
		ok bool
	}{
		{of(1, 2, 3, 0, 0, 3), ratio(3, 1), true}, {of(1, 2, 1, 1, 0, 1), api.Rat{}, false}, {of(-2, 1, 6), ratio(-3, 1), true}, {of(4, 2, 2, 0, 0, 2), ratio(1, 2), true}, {of(1, 3, make([]int64, 9)...), ratio(0, 1), true},
		{of(1, 2, 1, 0, 0, 2), api.Rat{}, false}, {of(1, 2, 0, 1, 1, 0), api.Rat{}, false},
	} {
		got, ok, e := simil.Scaled(c.m)
		if ok != c.ok || e != api.OK {
			t.Errorf("Scaled(%v): %v, %t, %d", c.m, got, ok, e)
		}
		if !ok {
			fault(t, "Scaled", e, api.OK, got)
			continue
		}
		wantRat(t, "Scaled", got, e, broken(c.c.Num, c.c.Den))
	}
}

func TestExamples(t *testing.T) {
	a, b, id := of(1, 2, 1, 1, 0, 1), of(1, 2, 1, 5, 0, 1), of(1, 2, 1, 0, 0, 1)
	yes, s, inverse, e := simil.Similar(a, b)
	if checkConjugator(t, a, b, s, inverse); !yes || e != api.OK {
		t.Error("Similar([1 1; 0 1], [1 5; 0 1])")
	}
	if yes, _, _, _ := simil.Similar(id, a); yes {
		t.Error("Similar([1 0; 0 1], [1 1; 0 1])")
	}
	place, f, g, differ, e := simil.Differ(id, a)
	wantPoly(t, "Differ", f, e, listPoly(coeffs(-1, 1)))
	wantPoly(t, "Differ", g, e, listPoly(coeffs(1, -2, 1)))
	if place != 0 || !differ {
		t.Errorf("Differ: %d, %t", place, differ)
	}
	// the last ones are the same; behind them one has x - 1 once more
	x := of(1, 4, 1, 1, 0, 0, 0, 1, 0, 0, 0, 0, 1, 0, 0, 0, 0, 1)
	y := of(1, 4, 1, 1, 0, 0, 0, 1, 0, 0, 0, 0, 1, 1, 0, 0, 0, 1)
	place, f, g, _, e = simil.Differ(x, y)
	wantPoly(t, "Differ", f, e, listPoly(coeffs(-1, 1)))
	wantPoly(t, "Differ", g, e, listPoly(coeffs(1, -2, 1)))
	if place != 1 {
		t.Errorf("Differ: %d", place)
	}
	for text, m := range map[string]api.Mat{"-2 1; -2 1": of(1, 2, 2, 0, 0, 2), "-1/2 1": of(-2, 1, -1), "6 -5 1": of(1, 2, 2, 0, 0, 3)} {
		if key, e := simil.Key(m); key != text || e != api.OK {
			t.Errorf("Key(%v): %q, %d", m, key, e)
		}
	}
	got, e := simil.Conjugate(of(1, 2, 1, 2, 0, 3), a)
	wantMat(t, "Conjugate", got, e, list(of(1, 2, 1, 0, 0, 3)))
	rows, _, _, e := numeral.Matrix("0 1; -1 0")
	turn, _ := qmat.From(rows...)
	other, _ := qmat.Transpose(turn)
	if yes, _, _, _ := simil.Similar(turn, other); !yes || e != api.OK {
		t.Error("Similar([0 1; -1 0], [0 -1; 1 0])")
	}
}

func TestLarge(t *testing.T) { // 24 rows
	r := rand.New(rand.NewSource(5))
	l := make([]int64, 24*24)
	for i := range l {
		l[i] = int64(r.Intn(9) - 4)
	}
	a := of(1, 24, l...)
	b := conjugated(r, a, 40)
	yes, s, inverse, e := simil.Similar(a, b)
	if !yes || e != api.OK {
		t.Fatalf("Similar of 24 rows: %t, %d", yes, e)
	}
	left, _ := qmat.Mul(a, s)
	right, _ := qmat.Mul(s, b)
	same, _ := qmat.Equal(left, right)
	one, _ := qmat.Mul(s, inverse)
	id, _ := qmat.Identity(24)
	if is, _ := qmat.Equal(one, id); !same || !is {
		t.Error("Similar of 24 rows")
	}
	f, _ := frob.Form(a)
	g, _ := companion.Sum(f.Polys...)
	if yes, _, _, _ := simil.Similar(a, g); !yes {
		t.Error("Similar of 24 rows and their form")
	}
}

func TestFaults(t *testing.T) { // the faults of fit matrices from the left
	ragged := api.Mat{Den: zint.Of(1), Num: [][]api.Int{{zint.Of(1)}, {}}}
	good, two := of(1, 1, 1), of(1, 2, 1, 2, 3, 4)
	calls := map[string]func(m api.Mat) ([]any, api.Errno){
		"Similar": func(m api.Mat) ([]any, api.Errno) {
			w, x, y, e := simil.Similar(m, api.Mat{})
			return []any{w, x, y}, e
		},
		"Similar 2": func(m api.Mat) ([]any, api.Errno) { w, x, y, e := simil.Similar(two, m); return []any{w, x, y}, e },
		"Differ": func(m api.Mat) ([]any, api.Errno) {
			w, x, y, z, e := simil.Differ(m, api.Mat{})
			return []any{w, x, y, z}, e
		},
		"Differ 2":    func(m api.Mat) ([]any, api.Errno) { w, x, y, z, e := simil.Differ(two, m); return []any{w, x, y, z}, e },
		"Key":         func(m api.Mat) ([]any, api.Errno) { x, e := simil.Key(m); return []any{x}, e },
		"Conjugate":   func(m api.Mat) ([]any, api.Errno) { x, e := simil.Conjugate(m, api.Mat{}); return []any{x}, e },
		"Conjugate 2": func(m api.Mat) ([]any, api.Errno) { x, e := simil.Conjugate(two, m); return []any{x}, e },
		"Transposer":  func(m api.Mat) ([]any, api.Errno) { x, y, e := simil.Transposer(m); return []any{x, y}, e },
		"Classes":     func(m api.Mat) ([]any, api.Errno) { x, e := simil.Classes(good, m, api.Mat{}); return []any{x}, e },
		"Scaled":      func(m api.Mat) ([]any, api.Errno) { x, y, e := simil.Scaled(m); return []any{x, y}, e },
	}
	for what, call := range calls {
		for _, c := range []struct {
			m api.Mat
			e api.Errno
		}{
			{api.Mat{}, api.ErrDen}, {api.Mat{Num: ragged.Num}, api.ErrDen}, {ragged, api.ErrShape}, {of(1, 2, 1, 2), api.ErrNotSquare}, {of(1, 1), api.ErrNotSquare}, {of(1, 1, 1, 2), api.ErrNotSquare},
			{of(1, 25, make([]int64, 625)...), api.ErrTooBig}, {api.Mat{Den: zint.Of(1), Num: [][]api.Int{{bits(4096)}}}, api.ErrTooBig},
		} {
			x, e := call(c.m)
			fault(t, what, e, c.e, x...)
		}
	}
	yes, s, inverse, e := simil.Similar(good, two)
	fault(t, "Similar", e, api.ErrShape, yes, s, inverse)
	place, f, g, differ, e := simil.Differ(good, two)
	fault(t, "Differ", e, api.ErrShape, place, f, g, differ)
	for _, s := range []api.Mat{two, of(1, 2, 1, 2, 2, 4)} {
		got, e := simil.Conjugate(good, s)
		fault(t, "Conjugate", e, api.ErrShape, got)
	}
	got, e := simil.Conjugate(two, of(1, 2, 1, 2, 2, 4))
	fault(t, "Conjugate", e, api.ErrSingular, got)
}

func TestMemory(t *testing.T) { // R3
	r := rand.New(rand.NewSource(6))
	for range 15 {
		a, c := family(r, 4), some(r, 4, 4)
		b := conjugated(r, a, 5)
		given := []any{a, b, c}
		for what, call := range map[string]func() []any{
			"Similar":    func() []any { w, x, y, _ := simil.Similar(a, b); return []any{w, x, y} },
			"Differ":     func() []any { w, x, y, z, _ := simil.Differ(a, c); return []any{w, x, y, z} },
			"Key":        func() []any { x, _ := simil.Key(a); return []any{x} },
			"Conjugate":  func() []any { x, e := simil.Conjugate(a, c); return []any{x, e} },
			"Transposer": func() []any { x, y, _ := simil.Transposer(a); return []any{x, y} },
			"Classes":    func() []any { x, _ := simil.Classes(a, b, c); return []any{x} },
			"Scaled":     func() []any { x, y, _ := simil.Scaled(of(1, 1, 3)); return []any{x, y} },
		} {
			memory(t, what, given, call)
		}
	}
}
