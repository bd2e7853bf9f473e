package modpoly_test

import (
	"fmt"
	"math"
	"math/rand"
	"slices"
	"testing"

	"simile/api"
	"simile/modpoly"
)

func TestNormal(t *testing.T) { // P8.1
	r := rand.New(rand.NewSource(1))
	for _, p := range primes {
		for range 100 {
			a := some(r, 6)
			w := reduced(a, p)
			got, e := modpoly.Normal(a, p)
			want(t, "Normal", got, e, w)
			if d, e := modpoly.Degree(a, p); d != len(w)-1 || e != api.OK {
				t.Errorf("Degree(%v, %d): %d", a, p, d)
			}
			monic, e := modpoly.Monic(a, p)
			want(t, "Monic", monic, e, reduced(monic, p))
			if len(w) > 0 && (monic[len(monic)-1] != 1 || !slices.Equal(combined(nil, monic, w[len(w)-1], p), w)) || len(w) == 0 && len(monic) > 0 {
				t.Errorf("Monic(%v, %d): %v", w, p, monic)
			}
		}
	}
	if d, e := modpoly.Degree(api.ModPoly{0, 3}, 3); d != -1 || e != api.OK {
		t.Errorf("Degree([0 3], 3): %d", d)
	}
}

func TestReckoning(t *testing.T) { // P8.2, P8.3, P8.5, P8.6, P8.11
	r := rand.New(rand.NewSource(2))
	for _, p := range primes {
		for range 150 {
			a, b, c := some(r, 8), some(r, 5), r.Uint32()
			got, e := modpoly.Add(a, b, p)
			want(t, "Add", got, e, combined(a, b, 1, p))
			got, e = modpoly.Sub(a, b, p)
			want(t, "Sub", got, e, combined(a, b, p-1, p))
			got, e = modpoly.Mul(a, b, p)
			want(t, "Mul", got, e, product(a, b, p))
			got, e = modpoly.Scale(a, c, p)
			want(t, "Scale", got, e, combined(nil, a, c, p))
			k := r.Intn(5)
			got, e = modpoly.Shift(a, k, p)
			want(t, "Shift", got, e, product(a, append(make(api.ModPoly, k), 1), p))
			if y, e := modpoly.Eval(a, c, p); y != value(a, c, p) || e != api.OK {
				t.Errorf("Eval(%v, %d, %d): %d, %d", a, c, p, y, e)
			}
			var slope api.ModPoly
			for i := 1; i < len(a); i++ {
				slope = append(slope, times(a[i], uint32(i), p))
			}
			got, e = modpoly.Deriv(a, p)
			want(t, "Deriv", got, e, reduced(slope, p))
			q, rest, e := modpoly.Div(a, b, p)
			if len(reduced(b, p)) == 0 {
				fault(t, "Div by 0", e, api.ErrPolyZero, q, rest)
				continue
			}
			want(t, "q b + r", combined(product(q, b, p), rest, 1, p), e, reduced(a, p))
			want(t, "q's form", q, e, reduced(q, p))
			want(t, "r's form", rest, e, reduced(rest, p))
			if len(rest) >= len(reduced(b, p)) {
				t.Errorf("Div(%v, %v, %d) leaves %v", a, b, p, rest)
			}
		}
	}
}

func TestLongProducts(t *testing.T) { // P8.2: sums that go beyond a word
	p := uint32(greatest)
	a := make(api.ModPoly, 300)
	for i := range a {
		a[i] = p - 1 - uint32(i%2)
	}
	got, e := modpoly.Mul(a, a, p)
	want(t, "Mul of great coefficients", got, e, product(a, a, p))
}

func TestShift(t *testing.T) { // P8.2
	for _, k := range []int{-1, 10001, math.MinInt, math.MaxInt} {
		got, e := modpoly.Shift(nil, k, 5)
		fault(t, "Shift", e, api.ErrArg, got)
	}
	got, e := modpoly.Shift(api.ModPoly{3, 5}, 10000, 5)
	if e != api.OK || len(got) != 10001 || got[10000] != 3 || got[0] != 0 {
		t.Errorf("Shift by 10000: %d", e)
	}
	got, e = modpoly.Shift(api.ModPoly{5}, 7, 5)
	want(t, "Shift of 0", got, e, nil)
}

func TestBezout(t *testing.T) { // P8.4, P8.12
	r := rand.New(rand.NewSource(3))
	for _, p := range primes {
		for range 150 {
			a, b, c := reduced(some(r, 5), p), reduced(some(r, 5), p), some(r, 3)
			if r.Intn(2) == 0 {
				a, b = product(a, c, p), product(b, c, p)
			}
			what := fmt.Sprint("Bezout ", a, b, p)
			g, s, u, e := modpoly.Bezout(append(a, 0), b, p)
			same, e2 := modpoly.Gcd(a, append(b, 0), p)
			want(t, "Gcd", same, e2, g)
			want(t, what, combined(product(s, a, p), product(u, b, p), 1, p), e, g)
			lcm, e := modpoly.Lcm(a, b, p)
			switch {
			case len(a) == 0 && len(b) == 0:
				want(t, what, g, e, nil)
				want(t, what, append(s, u...), e, nil)
				want(t, "Lcm", lcm, e, nil)
				continue
			case len(a) == 0:
				want(t, what, s, e, nil)
				want(t, what, u, e, monicUnit(b, p))
				want(t, "Lcm", lcm, e, nil)
				continue
			case len(b) == 0:
				want(t, what, s, e, monicUnit(a, p))
				want(t, what, u, e, nil)
				want(t, "Lcm", lcm, e, nil)
				continue
			}
			if g[len(g)-1] != 1 || len(s) > 0 && len(s)-1 >= len(b)-len(g) {
				t.Errorf("%s: g %v, s %v", what, g, s)
			}
			_, r1, _ := modpoly.Div(a, g, p)
			_, r2, _ := modpoly.Div(b, g, p)
			want(t, "g divides both", append(r1, r2...), api.OK, nil)
			ab, _ := modpoly.Monic(product(a, b, p), p)
			want(t, "Gcd times Lcm", product(g, lcm, p), e, ab)
		}
	}
	g, s, u, e := modpoly.Bezout(api.ModPoly{1, 1}, api.ModPoly{0, 1}, 5)
	if text := fmt.Sprint(g, s, u, int(e)); text != "[1] [1] [4] 0" {
		t.Errorf("Bezout([1 1], [0 1], 5): %s", text)
	}
	got, e := modpoly.Gcd(api.ModPoly{0, 0, 1}, api.ModPoly{0, 2}, 7)
	want(t, "Gcd([0 0 1], [0 2], 7)", got, e, api.ModPoly{0, 1})
}

// monicUnit: the inverse of a's top.
func monicUnit(a api.ModPoly, p uint32) api.ModPoly {
	monic, _ := modpoly.Monic(a[len(a)-1:], p)
	q, _, _ := modpoly.Div(monic, a[len(a)-1:], p)
	return q
}

func TestInterp(t *testing.T) { // P8.5, P8.13
	r := rand.New(rand.NewSource(4))
	for _, p := range primes {
		for range 60 {
			n := r.Intn(min(int(p), 9) + 1)
			start := r.Uint32() / 2
			l := make([]api.Node, n)
			for i, k := range r.Perm(n) {
				l[i] = api.Node{X: start + uint32(k), Y: r.Uint32()}
			}
			got, e := modpoly.Interp(l, p)
			want(t, "Interp's form", got, e, reduced(got, p))
			if len(got) > n {
				t.Errorf("Interp of %d nodes: %v", n, got)
			}
			for _, x := range l {
				if value(got, x.X, p) != x.Y%p {
					t.Errorf("Interp(%v, %d): %v", l, p, got)
				}
			}
			a := reduced(some(r, n), p)
			for i := range l {
				l[i].Y = value(a, l[i].X, p)
			}
			if len(a) <= n {
				got, e = modpoly.Interp(l, p)
				want(t, "Interp of a's values", got, e, a)
			}
		}
	}
	got, e := modpoly.Interp([]api.Node{{X: 0, Y: 1}, {X: 1, Y: 3}}, 7)
	want(t, "Interp", got, e, api.ModPoly{1, 2})
	got, e = modpoly.Interp([]api.Node{{X: 1}, {X: 8}}, 7)
	fault(t, "Interp of nodes that are the same", e, api.ErrModNodes, got)
	many := make([]api.Node, 1001)
	got, e = modpoly.Interp(many, 7)
	fault(t, "Interp of 1001 nodes", e, api.ErrArg, got)
	got, e = modpoly.Interp(many[:1000], 1000003)
	fault(t, "Interp of 1000 nodes that are the same", e, api.ErrModNodes, got)
	for i := range many {
		many[i] = api.Node{X: uint32(i), Y: uint32(i * i * i)}
	}
	got, e = modpoly.Interp(many[:1000], greatest)
	want(t, "Interp of 1000 cubes", got, e, api.ModPoly{0, 0, 0, 1})
}

func TestFree(t *testing.T) { // P8.6
	r := rand.New(rand.NewSource(5))
	for _, p := range primes {
		for range 60 {
			a, b := reduced(some(r, 4), p), reduced(some(r, 3), p)
			if len(b) > 1 && len(a) > 0 {
				if free, e := modpoly.Free(product(a, product(b, b, p), p), p); free || e != api.OK {
					t.Errorf("Free of a square times %v, %d", a, p)
				}
			}
			if free, e := modpoly.Free(a, p); len(a) == 0 && (free || e != api.ErrPolyZero) || len(a) == 1 && !free || len(a) == 2 && !free {
				t.Errorf("Free(%v, %d): %t, %d", a, p, free, e)
			}
		}
	}
	for _, c := range []struct {
		a    api.ModPoly
		p    uint32
		free bool
	}{{api.ModPoly{1, 0, 1}, 2, false}, {api.ModPoly{1, 0, 1}, 3, true}, {api.ModPoly{0, 2, 0, 1}, 3, true}, {api.ModPoly{2, 0, 0, 1}, 3, false}} {
		if free, e := modpoly.Free(c.a, c.p); free != c.free || e != api.OK {
			t.Errorf("Free(%v, %d): %t", c.a, c.p, free)
		}
	}
}

func TestPow(t *testing.T) { // P8.7, P8.15
	r := rand.New(rand.NewSource(6))
	for _, p := range primes {
		for range 40 {
			a, m := some(r, 5), some(r, 5)
			k := uint64(r.Intn(20))
			got, e := modpoly.Pow(a, k, m, p)
			if len(reduced(m, p)) == 0 {
				fault(t, "Pow modulo 0", e, api.ErrPolyZero, got)
				continue
			}
			w := api.ModPoly{1}
			for range k {
				w = product(w, a, p)
			}
			_, w, _ = modpoly.Div(w, m, p)
			want(t, fmt.Sprint("Pow ", a, k, m, p), got, e, w)
			// the p-th power has the same coefficients at x^p
			x, e := modpoly.Pow(api.ModPoly{0, 1}, uint64(p), m, p)
			var at api.ModPoly
			for i := len(a) - 1; i >= 0; i-- {
				at = combined(product(at, x, p), a[i:i+1], 1, p)
			}
			_, at, _ = modpoly.Div(at, m, p)
			got, _ = modpoly.Pow(a, uint64(p), m, p)
			want(t, "Freshman", got, e, at)
		}
	}
	got, e := modpoly.Pow(nil, 0, api.ModPoly{0, 1}, 5)
	want(t, "0^0", got, e, api.ModPoly{1})
	got, e = modpoly.Pow(api.ModPoly{3}, 0, api.ModPoly{4}, 5)
	want(t, "a^0 modulo a number", got, e, nil)
	got, e = modpoly.Pow(api.ModPoly{0, 1}, math.MaxUint64, api.ModPoly{1, 0, 1}, 3)
	want(t, "x^(2^64 - 1) modulo x^2 + 1", got, e, api.ModPoly{0, 2})
}

func TestInvert(t *testing.T) { // P8.7
	r := rand.New(rand.NewSource(7))
	for _, p := range primes {
		for range 80 {
			a, m := some(r, 6), some(r, 4)
			got, e := modpoly.Invert(a, m, p)
			rm := reduced(m, p)
			g, _ := modpoly.Gcd(a, m, p)
			switch {
			case len(rm) == 0:
				fault(t, "Invert modulo 0", e, api.ErrPolyZero, got)
			case len(g) != 1:
				fault(t, "Invert", e, api.ErrModUnit, got)
			default:
				_, rest, _ := modpoly.Div(product(got, a, p), m, p)
				_, one, _ := modpoly.Div(api.ModPoly{1}, m, p)
				want(t, "a times Invert", rest, e, one)
				if len(got) >= len(rm) {
					t.Errorf("Invert(%v, %v, %d): %v", a, m, p, got)
				}
			}
		}
	}
	got, e := modpoly.Invert(api.ModPoly{0, 1}, api.ModPoly{1, 0, 1}, 7)
	want(t, "Invert", got, e, api.ModPoly{0, 6})
	got, e = modpoly.Invert(nil, api.ModPoly{3}, 7)
	want(t, "Invert of 0 modulo a number", got, e, nil)
	got, e = modpoly.Invert(nil, api.ModPoly{3, 1}, 7)
	fault(t, "Invert of 0", e, api.ErrModUnit, got)
}

func TestCompose(t *testing.T) { // P8.8
	r := rand.New(rand.NewSource(8))
	for _, p := range primes {
		for range 40 {
			a, b, x := some(r, 5), some(r, 5), r.Uint32()
			got, e := modpoly.Compose(a, b, p)
			want(t, "Compose's form", got, e, reduced(got, p))
			if value(got, x, p) != value(a, value(b, x, p), p) {
				t.Errorf("Compose(%v, %v, %d): %v", a, b, p, got)
			}
			var w api.ModPoly
			for i := len(a) - 1; i >= 0; i-- {
				w = combined(product(w, b, p), a[i:i+1], 1, p)
			}
			want(t, "Compose", got, e, w)
		}
	}
	long := make(api.ModPoly, 205)
	long[200] = 1
	got, e := modpoly.Compose(long, nil, 7)
	fault(t, "Compose of 201 coefficients", e, api.ErrArg, got)
	got, e = modpoly.Compose(nil, long, 7)
	fault(t, "Compose into 201 coefficients", e, api.ErrArg, got)
	long[199], long[200] = 1, 7
	got, e = modpoly.Compose(long, long, 7)
	if e != api.OK || len(got) != 199*199+1 {
		t.Errorf("Compose of 200 coefficients: %d, %d", len(got), e)
	}
}

func TestRoots(t *testing.T) { // P8.9
	r := rand.New(rand.NewSource(9))
	for _, p := range []uint32{2, 3, 5, 7, 11, 13, 101} {
		for range 60 {
			a := some(r, 7)
			got, e := modpoly.Roots(a, p)
			if len(reduced(a, p)) == 0 {
				fault(t, "Roots of 0", e, api.ErrPolyZero, got)
				continue
			}
			var w []uint32
			for x := range p {
				if value(a, x, p) == 0 {
					w = append(w, x)
				}
			}
			want(t, fmt.Sprint("Roots ", a, p), got, e, w)
		}
	}
	for _, p := range primes[5:] {
		for range 20 {
			a, set := api.ModPoly{r.Uint32() | 1}, map[uint32]int{}
			for range r.Intn(8) {
				x := r.Uint32() % p
				set[x]++
				a = product(a, api.ModPoly{p - x, 1}, p)
			}
			var w []uint32
			for x := range set {
				w = append(w, x)
			}
			slices.Sort(w)
			if len(a) > 0 {
				got, e := modpoly.Roots(a, p)
				want(t, "Roots", got, e, w)
			}
		}
	}
	got, e := modpoly.Roots(api.ModPoly{1, 0, 1}, 7)
	want(t, "Roots of x^2 + 1", got, e, nil)
	got, e = modpoly.Roots(api.ModPoly{6, 0, 1}, 7)
	want(t, "Roots of x^2 - 1", got, e, api.ModPoly{1, 6})
}

func TestNoPrime(t *testing.T) { // ErrPrime of every call, ahead of all else
	for _, p := range []uint32{0, 1, 4, 9, math.MaxUint32} {
		long := make(api.ModPoly, 300)
		long[299] = 1
		for what, call := range map[string]func() (api.ModPoly, api.Errno){
			"Normal": func() (api.ModPoly, api.Errno) { return modpoly.Normal(long, p) },
			"Degree": func() (api.ModPoly, api.Errno) { d, e := modpoly.Degree(long, p); return make(api.ModPoly, d), e },
			"Monic":  func() (api.ModPoly, api.Errno) { return modpoly.Monic(long, p) },
			"Add":    func() (api.ModPoly, api.Errno) { return modpoly.Add(long, long, p) },
			"Sub":    func() (api.ModPoly, api.Errno) { return modpoly.Sub(long, nil, p) },
			"Mul":    func() (api.ModPoly, api.Errno) { return modpoly.Mul(long, long, p) },
			"Scale":  func() (api.ModPoly, api.Errno) { return modpoly.Scale(long, 1, p) },
			"Shift":  func() (api.ModPoly, api.Errno) { return modpoly.Shift(long, -1, p) },
			"Div":    func() (api.ModPoly, api.Errno) { q, r, e := modpoly.Div(long, nil, p); return append(q, r...), e },
			"Gcd":    func() (api.ModPoly, api.Errno) { return modpoly.Gcd(long, long, p) },
			"Lcm":    func() (api.ModPoly, api.Errno) { return modpoly.Lcm(long, long, p) },
			"Bezout": func() (api.ModPoly, api.Errno) {
				g, s, u, e := modpoly.Bezout(long, long, p)
				return append(append(g, s...), u...), e
			},
			"Eval":        func() (api.ModPoly, api.Errno) { y, e := modpoly.Eval(long, 1, p); return make(api.ModPoly, y), e },
			"Interp":      func() (api.ModPoly, api.Errno) { return modpoly.Interp(make([]api.Node, 2000), p) },
			"Deriv":       func() (api.ModPoly, api.Errno) { return modpoly.Deriv(long, p) },
			"Free":        func() (api.ModPoly, api.Errno) { _, e := modpoly.Free(nil, p); return nil, e },
			"Pow":         func() (api.ModPoly, api.Errno) { return modpoly.Pow(long, 2, nil, p) },
			"Invert":      func() (api.ModPoly, api.Errno) { return modpoly.Invert(long, nil, p) },
			"Compose":     func() (api.ModPoly, api.Errno) { return modpoly.Compose(long, long, p) },
			"Roots":       func() (api.ModPoly, api.Errno) { return modpoly.Roots(nil, p) },
			"Irreducible": func() (api.ModPoly, api.Errno) { _, e := modpoly.Irreducible(nil, p); return nil, e },
			"Factor":      func() (api.ModPoly, api.Errno) { l, e := modpoly.Factor(nil, p); return make(api.ModPoly, len(l)), e },
		} {
			got, e := call()
			fault(t, what, e, api.ErrPrime, got)
		}
	}
}
