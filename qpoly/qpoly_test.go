package qpoly_test

import (
	"fmt"
	"math/big"
	"math/rand"
	"testing"

	"simile/api"
	"simile/qpoly"
	"simile/rat"
	"simile/zint"
	"simile/zpoly"
)

// nought are forms of the polynomial 0.
var nought = []api.Poly{nil, {}, of(0), {{Num: api.Int{Neg: true, Mag: api.Nat{0}}, Den: zint.Of(-4)}, rat.Of(0)}}

func TestReckoning(t *testing.T) { // P9.1, P9.2, P9.4
	r := rand.New(rand.NewSource(1))
	for range 600 {
		a, b, c := some(r, 6), some(r, 4), someRat(r)
		x, y := list(a), list(b)
		got, e := qpoly.Norm(a)
		want(t, "Norm", got, e, x)
		if d, e := qpoly.Degree(a); d != len(x)-1 || e != api.OK {
			t.Errorf("Degree(%v): %d", x, d)
		}
		if same, e := qpoly.Equal(a, b); same != (len(sum(x, y, -1)) == 0) || e != api.OK {
			t.Errorf("Equal(%v, %v): %t", x, y, same)
		}
		if same, e := qpoly.Equal(a, got); !same || e != api.OK {
			t.Errorf("Equal(%v, itself): %t", x, same)
		}
		got, e = qpoly.Monic(a)
		want(t, "Monic", got, e, monic(x))
		got, e = qpoly.Add(a, b)
		want(t, "Add", got, e, sum(x, y, 1))
		got, e = qpoly.Sub(a, b)
		want(t, "Sub", got, e, sum(x, y, -1))
		got, e = qpoly.Mul(a, b)
		want(t, "Mul", got, e, product(x, y))
		got, e = qpoly.Scale(a, c)
		want(t, "Scale", got, e, product(x, trimmed(poly{broken(c)})))
		at, e := qpoly.Eval(a, c)
		wantRat(t, "Eval", at, e, value(x, broken(c)))
		got, e = qpoly.Derive(a)
		want(t, "Derive", got, e, slope(x))
		q, left, e := qpoly.Div(a, b)
		if len(y) == 0 {
			fault(t, "Div by 0", e, api.ErrZero, q, left)
			continue
		}
		want(t, "Div's rest", left, e, rest(x, y))
		want(t, "Div's quotient", q, e, list(q))
		if len(sum(sum(product(list(q), y), list(left), 1), x, -1)) > 0 {
			t.Errorf("Div(%v, %v): %v, %v", x, y, list(q), list(left))
		}
	}
}

func TestProducts(t *testing.T) { // P9.1: of any number
	r := rand.New(rand.NewSource(2))
	for n := range 6 {
		var l []api.Poly
		w := poly{big.NewRat(1, 1)}
		for range n {
			l = append(l, some(r, 4))
			w = product(w, list(l[len(l)-1]))
		}
		got, e := qpoly.Mul(l...)
		want(t, fmt.Sprint("Mul of ", n), got, e, w)
	}
}

func TestDenominators(t *testing.T) { // ErrDen of any argument, ahead of all else; of a nought at the top, too
	bad := append(of(0, 1), api.Rat{Den: api.Int{Neg: true, Mag: api.Nat{0}}})
	ok := of(1, 1)
	third := func(x, y, z api.Poly, e api.Errno) (api.Poly, api.Errno) { return append(append(x, y...), z...), e }
	for what, call := range map[string]func() (api.Poly, api.Errno){
		"Norm":      func() (api.Poly, api.Errno) { return qpoly.Norm(bad) },
		"Degree":    func() (api.Poly, api.Errno) { d, e := qpoly.Degree(bad); return make(api.Poly, d), e },
		"Equal":     func() (api.Poly, api.Errno) { _, e := qpoly.Equal(ok, bad); return nil, e },
		"Equal 1":   func() (api.Poly, api.Errno) { _, e := qpoly.Equal(bad, ok); return nil, e },
		"Monic":     func() (api.Poly, api.Errno) { return qpoly.Monic(bad) },
		"Add":       func() (api.Poly, api.Errno) { return qpoly.Add(ok, bad) },
		"Add 1":     func() (api.Poly, api.Errno) { return qpoly.Add(bad, ok) },
		"Sub":       func() (api.Poly, api.Errno) { return qpoly.Sub(ok, bad) },
		"Sub 1":     func() (api.Poly, api.Errno) { return qpoly.Sub(bad, ok) },
		"Mul":       func() (api.Poly, api.Errno) { return qpoly.Mul(nil, ok, bad) },
		"Scale":     func() (api.Poly, api.Errno) { return qpoly.Scale(bad, rat.Of(0)) },
		"Scale 1":   func() (api.Poly, api.Errno) { return qpoly.Scale(nil, api.Rat{}) },
		"Div":       func() (api.Poly, api.Errno) { q, r, e := qpoly.Div(bad, nil); return third(q, r, nil, e) },
		"Div 1":     func() (api.Poly, api.Errno) { q, r, e := qpoly.Div(ok, bad); return third(q, r, nil, e) },
		"Divides":   func() (api.Poly, api.Errno) { _, e := qpoly.Divides(bad, ok); return nil, e },
		"Divides 1": func() (api.Poly, api.Errno) { _, e := qpoly.Divides(nil, bad); return nil, e },
		"Gcd":       func() (api.Poly, api.Errno) { return qpoly.Gcd(ok, bad, ok) },
		"Lcm":       func() (api.Poly, api.Errno) { return qpoly.Lcm(nil, bad) },
		"Bezout":    func() (api.Poly, api.Errno) { return third(qpoly.Bezout(ok, bad)) },
		"Bezout 1":  func() (api.Poly, api.Errno) { return third(qpoly.Bezout(bad, ok)) },
		"Eval": func() (api.Poly, api.Errno) {
			x, e := qpoly.Eval(bad, rat.Of(1))
			return make(api.Poly, len(x.Den.Mag)), e
		},
		"Eval 1": func() (api.Poly, api.Errno) {
			x, e := qpoly.Eval(nil, api.Rat{})
			return make(api.Poly, len(x.Den.Mag)), e
		},
		"Derive":    func() (api.Poly, api.Errno) { return qpoly.Derive(bad) },
		"Compose":   func() (api.Poly, api.Errno) { return qpoly.Compose(make(api.Poly, 2000), ok) },
		"Compose 1": func() (api.Poly, api.Errno) { return qpoly.Compose(nil, bad) },
		"Squarefree": func() (api.Poly, api.Errno) {
			x, l, e := qpoly.Squarefree(bad)
			return make(api.Poly, len(l)+len(x.Den.Mag)), e
		},
		"Split":   func() (api.Poly, api.Errno) { c, d, e := qpoly.Split(nil, bad); return third(c, d, nil, e) },
		"Split 1": func() (api.Poly, api.Errno) { c, d, e := qpoly.Split(bad, ok); return third(c, d, nil, e) },
		"Integral": func() (api.Poly, api.Errno) {
			x, l, e := qpoly.Integral(bad)
			return make(api.Poly, len(l)+len(x.Den.Mag)), e
		},
	} {
		got, e := call()
		fault(t, what, e, api.ErrDen, got)
	}
}

func TestDivides(t *testing.T) { // P9.2
	r := rand.New(rand.NewSource(3))
	for range 300 {
		a, b := some(r, 4), some(r, 4)
		ab, _ := qpoly.Mul(a, b)
		if is, e := qpoly.Divides(a, ab); !is || e != api.OK {
			t.Errorf("%v does not divide %v", list(a), list(ab))
		}
		w := len(list(b)) == 0
		if x := list(a); len(x) > 0 {
			w = len(rest(list(b), x)) == 0
		}
		if is, e := qpoly.Divides(a, b); is != w || e != api.OK {
			t.Errorf("Divides(%v, %v): %t", list(a), list(b), is)
		}
	}
	for _, z := range nought {
		if is, _ := qpoly.Divides(z, z); !is {
			t.Error("0 does not divide 0")
		}
		if is, _ := qpoly.Divides(z, of(1)); is {
			t.Error("0 divides 1")
		}
		if is, _ := qpoly.Divides(of(0, 1), z); !is {
			t.Error("x does not divide 0")
		}
	}
}

func TestGcd(t *testing.T) { // P9.2, P9.4
	r := rand.New(rand.NewSource(4))
	for range 300 {
		a, b, c := some(r, 4), some(r, 4), some(r, 3)
		if r.Intn(2) == 0 {
			a, _ = qpoly.Mul(a, c)
			b, _ = qpoly.Mul(c, b)
		}
		x, y := list(a), list(b)
		got, e := qpoly.Gcd(a, b)
		want(t, "Gcd", got, e, common(x, y))
		got, e = qpoly.Gcd(a, b, c)
		want(t, "Gcd of three", got, e, common(common(x, y), list(c)))
		lcm, e := qpoly.Lcm(a, b)
		if len(x) == 0 || len(y) == 0 {
			want(t, "Lcm with 0", lcm, e, nil)
			continue
		}
		want(t, "Lcm", lcm, e, list(lcm))
		if len(sum(product(list(lcm), common(x, y)), monic(product(x, y)), -1)) > 0 {
			t.Errorf("Lcm(%v, %v): %v", x, y, list(lcm))
		}
		got, e = qpoly.Lcm(a, b, c)
		again, _ := qpoly.Lcm(lcm, c)
		want(t, "Lcm of three", got, e, list(again))
	}
	got, e := qpoly.Gcd()
	want(t, "Gcd()", got, e, nil)
	got, e = qpoly.Lcm()
	want(t, "Lcm()", got, e, list(of(1)))
	got, e = qpoly.Gcd(nil, of(0))
	want(t, "Gcd(0, 0)", got, e, nil)
	got, e = qpoly.Gcd(of(-1, 0, 1), of(-2, 2))
	want(t, "Gcd(x^2 - 1, 2x - 2)", got, e, list(of(-1, 1)))
	got, e = qpoly.Gcd(of(2, 4))
	want(t, "Gcd(4x + 2)", got, e, poly{big.NewRat(1, 2), big.NewRat(1, 1)})
	got, e = qpoly.Lcm(of(2, 4), of(3), of(2, 4))
	want(t, "Lcm", got, e, poly{big.NewRat(1, 2), big.NewRat(1, 1)})
}

func TestBezout(t *testing.T) { // P9.2
	r := rand.New(rand.NewSource(5))
	for range 400 {
		a, b, c := some(r, 5), some(r, 5), some(r, 3)
		if r.Intn(2) == 0 {
			a, _ = qpoly.Mul(a, c)
			b, _ = qpoly.Mul(c, b)
		}
		x, y := list(a), list(b)
		g, u, v, e := qpoly.Bezout(a, b)
		what := fmt.Sprint("Bezout ", x, y)
		want(t, what, g, e, common(x, y))
		want(t, what, u, e, list(u))
		want(t, what, v, e, list(v))
		if len(sum(sum(product(x, list(u)), product(y, list(v)), 1), list(g), -1)) > 0 {
			t.Errorf("%s: %v, %v, %v", what, list(g), list(u), list(v))
		}
		if len(y) > 0 && len(u) > 0 && len(u)-1 >= len(y)-len(g) {
			t.Errorf("%s: u is %v", what, list(u))
		}
		if len(y) == 0 && (len(v) > 0 || len(x) > 0 && len(u) != 1 || len(x) == 0 && len(u) > 0) {
			t.Errorf("%s: u %v, v %v", what, list(u), list(v))
		}
	}
	g, u, v, e := qpoly.Bezout(of(0, 1), of(-1, 1))
	want(t, "Bezout(x, x - 1)", g, e, list(of(1)))
	want(t, "Bezout(x, x - 1)", u, e, list(of(1)))
	want(t, "Bezout(x, x - 1)", v, e, list(of(-1)))
	_, u, v, e = qpoly.Bezout(of(1, 2), nil)
	want(t, "Bezout(2x + 1, 0)", u, e, poly{big.NewRat(1, 2)})
	want(t, "Bezout(2x + 1, 0)", v, e, nil)
	_, u, v, e = qpoly.Bezout(nil, of(1, 2))
	want(t, "Bezout(0, 2x + 1)", u, e, nil)
	want(t, "Bezout(0, 2x + 1)", v, e, poly{big.NewRat(1, 2)})
}

func TestCompose(t *testing.T) { // P9.1, P9.6
	r := rand.New(rand.NewSource(6))
	for range 200 {
		a, b, x := some(r, 5), some(r, 4), someRat(r)
		got, e := qpoly.Compose(a, b)
		var w poly
		for i := len(list(a)) - 1; i >= 0; i-- {
			w = sum(product(w, list(b)), trimmed(poly{list(a)[i]}), 1)
		}
		want(t, "Compose", got, e, w)
		bx, _ := qpoly.Eval(b, x)
		abx, e := qpoly.Eval(a, bx)
		at, _ := qpoly.Eval(got, x)
		wantRat(t, "Eval of Compose", at, e, broken(abx))
		ab, _ := qpoly.Mul(a, b)
		got, e = qpoly.Derive(ab)
		want(t, "Leibniz", got, e, sum(product(slope(list(a)), list(b)), product(list(a), slope(list(b))), 1))
	}
	long := func(d int) api.Poly {
		out := make(api.Poly, d+1)
		for i := range out {
			out[i] = rat.Of(0)
		}
		out[d] = rat.Of(1)
		return out
	}
	for _, c := range []struct {
		a, b int
		e    api.Errno
	}{{500, 2, api.OK}, {501, 2, api.ErrTooBig}, {1, 1000, api.OK}, {1, 1001, api.ErrTooBig}, {1001, 1, api.ErrTooBig}, {1001, 0, api.OK}, {0, 1001, api.OK}, {40, 26, api.ErrTooBig}} {
		got, e := qpoly.Compose(long(c.a), long(c.b))
		if e != c.e || e == api.OK && len(got) != c.a*c.b+1 || e != api.OK && len(got) > 0 {
			t.Errorf("Compose of degrees %d, %d: %d, %d", c.a, c.b, len(got), e)
		}
	}
	got, e := qpoly.Compose(long(2000), nil)
	want(t, "Compose into 0", got, e, nil)
}

func TestSquarefree(t *testing.T) { // P9.3, P9.5
	r := rand.New(rand.NewSource(7))
	for range 150 {
		a := api.Poly{rat.Of(1)}
		for range r.Intn(4) {
			x := some(r, 3)
			for range r.Intn(4) {
				a, _ = qpoly.Mul(a, x)
			}
		}
		if d, _ := qpoly.Degree(a); d < 0 {
			continue
		}
		lead, parts, e := qpoly.Squarefree(a)
		w := poly{broken(lead)}
		last := 0
		for i, p := range parts {
			x := list(p.Poly)
			want(t, "Squarefree's part", p.Poly, e, monic(x))
			if len(x) < 2 || p.Times <= last || len(common(x, slope(x))) != 1 {
				t.Errorf("Squarefree(%v): %v, %d times", list(a), x, p.Times)
			}
			last = p.Times
			for range p.Times {
				w = product(w, x)
			}
			for _, q := range parts[:i] {
				if len(common(x, list(q.Poly))) != 1 {
					t.Errorf("Squarefree(%v): parts with a common factor", list(a))
				}
			}
		}
		if len(sum(w, list(a), -1)) > 0 || !normal(lead) || e != api.OK {
			t.Errorf("Squarefree(%v) makes %v", list(a), w)
		}
	}
	lead, parts, e := qpoly.Squarefree(of(0, 0, -2, 2))
	wantRat(t, "Squarefree(2x^3 - 2x^2)", lead, e, big.NewRat(2, 1))
	if len(parts) != 2 || parts[0].Times != 1 || parts[1].Times != 2 {
		t.Fatalf("Squarefree(2x^3 - 2x^2): %v", parts)
	}
	want(t, "once", parts[0].Poly, e, list(of(-1, 1)))
	want(t, "twice", parts[1].Poly, e, list(of(0, 1)))
	lead, parts, e = qpoly.Squarefree(of(-7))
	if wantRat(t, "Squarefree(-7)", lead, e, big.NewRat(-7, 1)); len(parts) > 0 {
		t.Errorf("Squarefree(-7): %v", parts)
	}
	for _, z := range nought {
		if lead, parts, e := qpoly.Squarefree(z); e != api.ErrPolyZero || len(parts) > 0 || len(lead.Den.Mag) > 0 {
			t.Errorf("Squarefree(0): %v, %v, %d", lead, parts, e)
		}
		c, d, e := qpoly.Split(z, of(1))
		fault(t, "Split of 0", e, api.ErrPolyZero, c, d)
	}
}

func TestSplit(t *testing.T) { // P9.3, P9.5
	r := rand.New(rand.NewSource(8))
	for range 200 {
		a, b, f := some(r, 4), some(r, 4), some(r, 3)
		for range r.Intn(4) {
			a, _ = qpoly.Mul(a, f)
		}
		b, _ = qpoly.Mul(b, f)
		if len(list(a)) == 0 {
			continue
		}
		c, d, e := qpoly.Split(a, b)
		x, y := list(c), list(d)
		want(t, "Split's c", c, e, monic(x))
		want(t, "Split's d", d, e, monic(y))
		if len(sum(product(x, y), monic(list(a)), -1)) > 0 || len(common(x, list(b))) > 1 {
			t.Errorf("Split(%v, %v): %v, %v", list(a), list(b), x, y)
		}
		power := poly{big.NewRat(1, 1)}
		for range len(y) {
			power = product(power, list(b))
		}
		if len(rest(power, y)) > 0 {
			t.Errorf("Split(%v, %v): %v divides no power", list(a), list(b), y)
		}
	}
	c, d, e := qpoly.Split(of(0, 0, -1, 1), of(0, 1))
	want(t, "Split(x^3 - x^2, x)", c, e, list(of(-1, 1)))
	want(t, "Split(x^3 - x^2, x)", d, e, list(of(0, 0, 1)))
	c, d, e = qpoly.Split(of(2, 2), nil)
	want(t, "Split(2x + 2, 0)", c, e, list(of(1)))
	want(t, "Split(2x + 2, 0)", d, e, list(of(1, 1)))
	c, d, e = qpoly.Split(of(5), of(3))
	want(t, "Split(5, 3)", c, e, list(of(1)))
	want(t, "Split(5, 3)", d, e, list(of(1)))
}

func TestIntegral(t *testing.T) { // P9.1, P9.3
	r := rand.New(rand.NewSource(9))
	for range 300 {
		a := some(r, 5)
		c, p, e := qpoly.Integral(a)
		if len(list(a)) == 0 {
			if wantRat(t, "Integral(0)", c, e, new(big.Rat)); len(p) > 0 {
				t.Errorf("Integral(0): %v", p)
			}
			continue
		}
		if zpoly.Lead(p).Neg || large(zpoly.Content(p)).Int64() != 1 || !zpoly.Equal(p, p) || len(p) != len(list(a)) {
			t.Errorf("Integral(%v): %v", list(a), p)
		}
		back, e := qpoly.Scale(qpoly.FromInt(p), c)
		want(t, "the product", back, e, list(a))
		wantRat(t, "Integral's number", c, e, broken(c))
	}
	c, p, e := qpoly.Integral(api.Poly{{Num: zint.Of(1), Den: zint.Of(3)}, {Num: zint.Of(1), Den: zint.Of(2)}})
	wantRat(t, "Integral(x/2 + 1/3)", c, e, big.NewRat(1, 6))
	if fmt.Sprint(p) != fmt.Sprint(api.IntPoly{zint.Of(2), zint.Of(3)}) {
		t.Errorf("Integral(x/2 + 1/3): %v", p)
	}
	c, _, e = qpoly.Integral(of(2, -4))
	wantRat(t, "Integral(2 - 4x)", c, e, big.NewRat(-2, 1))
	want(t, "FromInt", qpoly.FromInt(api.IntPoly{{Neg: true, Mag: api.Nat{3, 0}}, {}, {Mag: api.Nat{5}}, {Neg: true}}), api.OK, list(of(-3, 0, 5)))
	want(t, "FromInt of 0", qpoly.FromInt(api.IntPoly{{}, {}}), api.OK, nil)
}

func TestMemory(t *testing.T) { // R3: what is handed in stays, what is answered is new
	ints := func(p api.IntPoly) api.Poly {
		var out api.Poly
		for _, x := range p {
			out = append(out, api.Rat{Num: x})
		}
		return out
	}
	calls := map[string]func(a, b api.Poly) []api.Poly{
		"Norm":     func(a, b api.Poly) []api.Poly { x, _ := qpoly.Norm(a); return []api.Poly{x} },
		"Monic":    func(a, b api.Poly) []api.Poly { x, _ := qpoly.Monic(a); return []api.Poly{x} },
		"Add":      func(a, b api.Poly) []api.Poly { x, _ := qpoly.Add(a, b); return []api.Poly{x} },
		"Sub":      func(a, b api.Poly) []api.Poly { x, _ := qpoly.Sub(a, b); return []api.Poly{x} },
		"Mul":      func(a, b api.Poly) []api.Poly { x, _ := qpoly.Mul(a); y, _ := qpoly.Mul(a, b); return []api.Poly{x, y} },
		"Scale":    func(a, b api.Poly) []api.Poly { x, _ := qpoly.Scale(a, rat.Of(1)); return []api.Poly{x} },
		"Div":      func(a, b api.Poly) []api.Poly { x, y, _ := qpoly.Div(a, b); return []api.Poly{x, y} },
		"Gcd":      func(a, b api.Poly) []api.Poly { x, _ := qpoly.Gcd(a); y, _ := qpoly.Gcd(a, b); return []api.Poly{x, y} },
		"Lcm":      func(a, b api.Poly) []api.Poly { x, _ := qpoly.Lcm(a); y, _ := qpoly.Lcm(a, b); return []api.Poly{x, y} },
		"Bezout":   func(a, b api.Poly) []api.Poly { x, y, z, _ := qpoly.Bezout(a, b); return []api.Poly{x, y, z} },
		"Eval":     func(a, b api.Poly) []api.Poly { x, _ := qpoly.Eval(a, rat.Of(0)); return []api.Poly{{x}} },
		"Derive":   func(a, b api.Poly) []api.Poly { x, _ := qpoly.Derive(a); return []api.Poly{x} },
		"Compose":  func(a, b api.Poly) []api.Poly { x, _ := qpoly.Compose(a, b); return []api.Poly{x} },
		"Split":    func(a, b api.Poly) []api.Poly { x, y, _ := qpoly.Split(a, b); return []api.Poly{x, y} },
		"Integral": func(a, b api.Poly) []api.Poly { x, p, _ := qpoly.Integral(a); return []api.Poly{{x}, ints(p)} },
		"FromInt":  func(a, b api.Poly) []api.Poly { return []api.Poly{qpoly.FromInt(api.IntPoly{zint.Of(4), zint.Of(4)})} },
		"Squarefree": func(a, b api.Poly) []api.Poly {
			x, l, _ := qpoly.Squarefree(a)
			out := []api.Poly{{x}}
			for _, p := range l {
				out = append(out, p.Poly)
			}
			return out
		},
	}
	r := rand.New(rand.NewSource(10))
	for what, call := range calls {
		for range 40 {
			a, b := some(r, 5), some(r, 4)
			a, b = append(a, of(5, 6)...)[:len(a)], append(b, of(5, 6)...)[:len(b)]
			kept := fmt.Sprint(a[:len(a)+2], b[:len(b)+2])
			text := fmt.Sprint(call(a, b))
			var parts []*api.Int
			for _, p := range call(a, b) {
				for i := range p {
					parts = append(parts, &p[i].Num, &p[i].Den)
				}
			}
			for k, x := range parts {
				room := x.Mag[:cap(x.Mag)]
				for i := range room {
					room[i] = uint32(k) + 1000
				}
			}
			for k, x := range parts {
				for _, limb := range x.Mag {
					if limb != uint32(k)+1000 {
						t.Fatalf("%s: two lists of the answer share memory", what)
					}
				}
			}
			if fmt.Sprint(a[:len(a)+2], b[:len(b)+2]) != kept || fmt.Sprint(call(a, b)) != text {
				t.Errorf("%s changes what is handed in, or shares it", what)
			}
		}
	}
}
