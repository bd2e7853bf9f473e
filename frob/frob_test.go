package frob_test

import (
	"fmt"
	"math/big"
	"math/rand"
	"testing"

	"simile/api"
	"simile/companion"
	"simile/frob"
	"simile/krylov"
	"simile/qmat"
	"simile/qpoly"
	"simile/smith"
	"simile/zint"
)

// conjugated: the same matrix in another basis.
func conjugated(r *rand.Rand, m api.Mat, steps int) api.Mat {
	n := len(m.Num)
	for range steps {
		i, k := r.Intn(n), r.Intn(n)
		if i == k {
			continue
		}
		c := int64(r.Intn(3) - 1)
		step, _ := qmat.Identity(n)
		step.Num[i][k] = zint.Of(c)
		back, _ := qmat.Identity(n)
		back.Num[i][k] = zint.Of(-c)
		m, _ = qmat.Mul(back, m)
		m, _ = qmat.Mul(m, step)
	}
	return m
}

// chained tells monic polynomials each of which divides the next one, their degrees making n together.
func chained(r *rand.Rand, n int) []api.Poly {
	var degrees []int
	for left := n; left > 0; {
		most := left
		if len(degrees) > 0 {
			most = min(left, degrees[0])
		}
		d := r.Intn(most) + 1
		degrees = append([]int{d}, degrees...)
		left -= d
	}
	var out []api.Poly
	last := coeffs(1)
	for _, d := range degrees {
		for len(last)-1 < d {
			k := r.Intn(d-len(last)+1) + 1
			f := make(api.Poly, k)
			for i := range f {
				f[i] = ratio(int64(r.Intn(5)-2), 1)
			}
			last, _ = qpoly.Mul(last, append(f, ratio(1, 1)))
		}
		out = append(out, last)
	}
	return out
}

// checkForm holds a Form against what it promises, with these invariant factors.
func checkForm(t *testing.T, m api.Mat, w []poly) {
	t.Helper()
	f, e := frob.Form(m)
	if e != api.OK || len(f.Polys) != len(w) {
		t.Fatalf("Form(%v): %v, %d, want %v", m, f.Polys, e, w)
	}
	for i, g := range f.Polys {
		wantPoly(t, "Form's Polys", g, e, w[i])
	}
	n := len(m.Num)
	form, _ := companion.Sum(f.Polys...)
	wantMat(t, "F", f.F, e, list(form))
	wantMat(t, "T", f.T, e, list(f.T))
	wantMat(t, "Inv", f.Inv, e, list(f.Inv))
	if len(f.T.Num) != n || fmt.Sprint(times(list(f.T), list(f.Inv))) != fmt.Sprint(unit(n)) {
		t.Errorf("Form(%v): T %v, Inv %v", m, f.T, f.Inv)
	}
	if fmt.Sprint(times(list(f.Inv), times(list(m), list(f.T)))) != fmt.Sprint(list(form)) {
		t.Errorf("Form(%v): Inv A T is not F", m)
	}
	l, e := frob.Invariants(m)
	if len(l) != len(w) {
		t.Fatalf("Invariants(%v): %v", m, l)
	}
	for i, g := range l {
		wantPoly(t, "Invariants", g, e, w[i])
	}
	if is, e := frob.Cyclic(m); is != (len(w) == 1) || e != api.OK {
		t.Errorf("Cyclic(%v): %t", m, is)
	}
	checkDecompose(t, m, w)
}

// checkDecompose holds Decompose against what it promises.
func checkDecompose(t *testing.T, m api.Mat, w []poly) {
	t.Helper()
	vectors, polys, e := frob.Decompose(m)
	if len(vectors) != len(w) || len(polys) != len(w) || e != api.OK {
		t.Fatalf("Decompose(%v): %v, %v, %d", m, vectors, polys, e)
	}
	var basis table
	for i, v := range vectors {
		wantPoly(t, "Decompose", polys[i], e, w[i])
		wantVec(t, "Decompose's vector", v, e, listVec(v))
		if short := fits(v); short {
			min, e := krylov.MinPoly(m, v)
			wantPoly(t, "the minimal polynomial of Decompose's vector", min, e, w[i])
		}
		x := listVec(v)
		for range len(w[i]) - 1 {
			basis = append(basis, x)
			x = turned(times(list(m), turned(table{x})))[0]
		}
	}
	if len(basis) != len(m.Num) || len(reduced(basis)) != len(m.Num) {
		t.Errorf("Decompose(%v): %v is no basis", m, vectors)
	}
}

// fits: does chapter 15 take the vector?
func fits(v api.Vec) bool {
	h, _ := qmat.Height(api.Mat{Den: v.Den, Num: [][]api.Int{v.Num}})
	return h <= api.MaxBits
}

func TestKnownFactors(t *testing.T) { // P19.1, P19.2, P19.4: matrices that are similar to a form
	r := rand.New(rand.NewSource(1))
	for k := range 200 {
		n := r.Intn(7) + 1
		if k%20 == 0 {
			n = 12
		}
		l := chained(r, n)
		form, _ := companion.Sum(l...)
		var w []poly
		for _, f := range l {
			w = append(w, listPoly(f))
		}
		checkForm(t, form, w)
		m := conjugated(r, form, 3*n)
		c := ratio(int64(r.Intn(3)+1), 1)
		if r.Intn(3) == 0 { // a fraction times it: the coefficients get powers of that
			c = ratio(-2, 3)
		}
		scaled, _ := qmat.Scale(m, c)
		var v []poly
		for _, f := range w {
			g := make(poly, len(f))
			power := big.NewRat(1, 1)
			for i := len(f) - 1; i >= 0; i-- {
				g[i] = new(big.Rat).Mul(f[i], power)
				power = new(big.Rat).Mul(power, broken(c.Num, c.Den))
			}
			v = append(v, g)
		}
		checkForm(t, scaled, v)
	}
}

func TestAnyMatrix(t *testing.T) { // P19.1, P19.3: against the Smith form
	r := rand.New(rand.NewSource(2))
	for range 150 {
		n := r.Intn(5) + 1
		m := some(r, n, n)
		factors, _ := smith.Factors(m)
		var w []poly
		product := poly{big.NewRat(1, 1)}
		for _, f := range factors {
			w = append(w, listPoly(f))
			product = polyTimes(product, listPoly(f))
		}
		checkForm(t, m, w)
		if fmt.Sprint(product) != fmt.Sprint(charOf(list(m))) || fmt.Sprint(w[len(w)-1]) != fmt.Sprint(minimalOf(list(m))) {
			t.Errorf("the invariant factors of %v: %v", m, w)
		}
	}
}

func TestExamples(t *testing.T) {
	checkForm(t, of(1, 2, 2, 0, 0, 2), []poly{listPoly(coeffs(-2, 1)), listPoly(coeffs(-2, 1))})
	checkForm(t, of(1, 2, 2, 0, 0, 3), []poly{listPoly(coeffs(6, -5, 1))})
	checkForm(t, of(1, 3, 0, 1, 0, 0, 0, 0, 0, 0, 0), []poly{listPoly(coeffs(0, 1)), listPoly(coeffs(0, 0, 1))})
	checkForm(t, of(1, 1, 0), []poly{listPoly(coeffs(0, 1))})
	checkForm(t, of(-2, 1, 3), []poly{{big.NewRat(3, 2), big.NewRat(1, 1)}})
	for _, n := range []int{5, 24} {
		checkForm(t, of(1, n, make([]int64, n*n)...), manyOf(n, coeffs(0, 1)))
		id, _ := qmat.Identity(n)
		checkForm(t, id, manyOf(n, coeffs(-1, 1)))
	}
}

func manyOf(n int, f api.Poly) []poly {
	var out []poly
	for range n {
		out = append(out, listPoly(f))
	}
	return out
}

func TestLarge(t *testing.T) { // 24 rows: one invariant factor, and several
	r := rand.New(rand.NewSource(3))
	l := make([]int64, 24*24)
	for i := range l {
		l[i] = int64(r.Intn(19) - 9)
	}
	m := of(1, 24, l...)
	f, e := frob.Form(m)
	if len(f.Polys) != 1 || e != api.OK {
		t.Fatalf("Form of 24 rows: %d", e)
	}
	x, _ := qmat.Mul(f.Inv, m)
	x, _ = qmat.Mul(x, f.T)
	y, _ := qmat.Mul(f.T, f.Inv)
	id, _ := qmat.Identity(24)
	same, _ := qmat.Equal(x, f.F)
	one, _ := qmat.Equal(y, id)
	is, _ := companion.IsForm(f.F)
	if !same || !one || !is {
		t.Error("Form of 24 rows")
	}
	g := coeffs(3, 1, 0, -2, 1)
	g2, _ := qpoly.Mul(g, g)
	g4, _ := qpoly.Mul(g2, g2)
	form, _ := companion.Sum(g, g, g4)
	checkForm(t, conjugated(r, form, 60), []poly{listPoly(g), listPoly(g), listPoly(g4)})
	h, _ := qpoly.Mul(g4, coeffs(-5, 0, 1))
	form, _ = companion.Sum(g, h)
	checkForm(t, conjugated(r, form, 60), []poly{listPoly(g), listPoly(h)})
}

func TestLong(t *testing.T) { // numbers at the limit
	m := api.Mat{Den: zint.Of(1), Num: [][]api.Int{{bits(4095), zint.Of(1), {}}, {{}, bits(4095), {}}, {{}, {}, bits(4095)}}}
	f := poly{new(big.Rat).SetInt(new(big.Int).Neg(large(bits(4095)))), big.NewRat(1, 1)}
	checkForm(t, m, []poly{f, polyTimes(f, f)})
	m = api.Mat{Den: bits(4095), Num: [][]api.Int{{zint.Of(1), zint.Of(3)}, {zint.Of(5), zint.Of(7)}}}
	g := charOf(list(m))
	checkForm(t, m, []poly{g})
}

func TestFaults(t *testing.T) { // the errors, in their order
	ragged := api.Mat{Den: zint.Of(1), Num: [][]api.Int{{zint.Of(1)}, {}}}
	for _, c := range []struct {
		m api.Mat
		e api.Errno
	}{
		{api.Mat{}, api.ErrDen}, {api.Mat{Num: ragged.Num}, api.ErrDen}, {ragged, api.ErrShape}, {of(1, 2, 1, 2), api.ErrNotSquare}, {of(1, 1), api.ErrNotSquare}, {of(1, 1, 1, 2), api.ErrNotSquare},
		{api.Mat{Den: zint.Of(1), Num: [][]api.Int{{}}}, api.ErrNotSquare}, {of(1, 25, make([]int64, 625)...), api.ErrTooBig}, {api.Mat{Den: zint.Of(1), Num: [][]api.Int{{bits(4096)}}}, api.ErrTooBig}, {api.Mat{Den: bits(4096), Num: [][]api.Int{{zint.Of(1)}}}, api.ErrTooBig},
	} {
		f, e := frob.Form(c.m)
		fault(t, "Form", e, c.e, f)
		l, e := frob.Invariants(c.m)
		fault(t, "Invariants", e, c.e, l)
		v, l, e := frob.Decompose(c.m)
		fault(t, "Decompose", e, c.e, v, l)
		is, e := frob.Cyclic(c.m)
		fault(t, "Cyclic", e, c.e, is)
	}
}

func TestMemory(t *testing.T) { // R3
	r := rand.New(rand.NewSource(4))
	for range 20 {
		form, _ := companion.Sum(chained(r, 5)...)
		m := conjugated(r, form, 6)
		m.Num[0][0].Mag = append(m.Num[0][0].Mag, 0)
		given := []any{m}
		memory(t, "Form", given, func() []any { x, _ := frob.Form(m); return []any{x} })
		memory(t, "Invariants", given, func() []any { x, _ := frob.Invariants(m); y, _ := frob.Cyclic(m); return []any{x, y} })
		memory(t, "Decompose", given, func() []any { x, y, _ := frob.Decompose(m); return []any{x, y} })
	}
}
