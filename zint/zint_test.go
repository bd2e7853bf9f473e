package zint_test

import (
	"fmt"
	"math"
	"math/big"
	"math/rand"
	"slices"
	"testing"

	"simile/api"
	"simile/zint"
)

var minusZero = api.Int{Neg: true, Mag: api.Nat{0, 0}}

func TestForms(t *testing.T) { // P3.1
	for _, c := range []struct {
		a    api.Int
		n    int64
		sign int
	}{
		{api.Int{}, 0, 0}, {minusZero, 0, 0}, {api.Int{Neg: true}, 0, 0}, {api.Int{Mag: api.Nat{5, 0}}, 5, 1}, {api.Int{Neg: true, Mag: api.Nat{5, 0}}, -5, -1},
		{api.Int{Neg: true, Mag: api.Nat{0, 1 << 31}}, math.MinInt64, -1}, {api.Int{Mag: api.Nat{math.MaxUint32, 1<<31 - 1, 0}}, math.MaxInt64, 1},
	} {
		want(t, "Norm", zint.Norm(c.a), big.NewInt(c.n))
		want(t, "Of", zint.Of(c.n), big.NewInt(c.n))
		want(t, "Neg", zint.Neg(c.a), new(big.Int).Neg(big.NewInt(c.n)))
		want(t, "Neg of Neg", zint.Neg(zint.Neg(c.a)), big.NewInt(c.n))
		want(t, "Abs", zint.Abs(c.a), new(big.Int).Abs(big.NewInt(c.n)))
		if n, ok := zint.Int64(c.a); n != c.n || !ok {
			t.Errorf("Int64(%v): %d, %t", c.a, n, ok)
		}
		if s := zint.Sign(c.a); s != c.sign {
			t.Errorf("Sign(%v): %d", c.a, s)
		}
	}
	for _, a := range []api.Int{{Mag: api.Nat{0, 1 << 31}}, {Neg: true, Mag: api.Nat{1, 1 << 31}}, {Mag: api.Nat{1, 0, 1}}, {Neg: true, Mag: api.Nat{0, 0, 1}}, {Mag: api.Nat{math.MaxUint32, math.MaxUint32}}} {
		if n, ok := zint.Int64(a); n != 0 || ok {
			t.Errorf("Int64(%v): %d, %t", a, n, ok)
		}
	}
}

func TestReckoning(t *testing.T) { // P3.1, P3.2, P3.6, P3.8
	r := rand.New(rand.NewSource(1))
	for range 4000 {
		a, b := some(r, 4), some(r, 3)
		x, y := large(a), large(b)
		want(t, "Add", zint.Add(a, b), new(big.Int).Add(x, y))
		want(t, "Sub", zint.Sub(a, b), new(big.Int).Sub(x, y))
		want(t, "Mul", zint.Mul(a, b), new(big.Int).Mul(x, y))
		if c := zint.Cmp(a, b); c != x.Cmp(y) {
			t.Errorf("Cmp(%v, %v): %d", x, y, c)
		}
		if y.Sign() != 0 {
			divisions(t, a, b)
		}
	}
}

// divisions holds those of two numbers against math/big.
func divisions(t *testing.T, a, b api.Int) {
	t.Helper()
	x, y := large(a), large(b)
	q, m, e := zint.Euclid(a, b)
	fault(t, "Euclid", e, api.OK)
	wq, wm := new(big.Int).DivMod(x, y, new(big.Int))
	want(t, "Euclid", q, wq)
	want(t, "Euclid's rest", m, wm)
	q, m, e = zint.Trunc(a, b)
	fault(t, "Trunc", e, api.OK)
	tq, tm := new(big.Int).QuoRem(x, y, new(big.Int))
	want(t, "Trunc", q, tq)
	want(t, "Trunc's rest", m, tm)
	exact, e := zint.Exact(a, b)
	if tm.Sign() != 0 {
		fault(t, "Exact", e, api.ErrZintExact, exact)
	} else if fault(t, "Exact", e, api.OK); true {
		want(t, "Exact", exact, tq)
	}
	back, e := zint.Exact(zint.Mul(a, b), b)
	fault(t, "Exact of a product", e, api.OK)
	want(t, "Exact of a product", back, x)
	near, e := zint.Near(a, b)
	fault(t, "Near", e, api.OK)
	want(t, "Near", near, nearest(x, y))
}

// nearest: of the quotient and both its neighbours the one that is nearest; of two the even one.
func nearest(x, y *big.Int) *big.Int {
	q := new(big.Int).Div(x, y)
	var best, gap *big.Int
	for d := int64(-1); d <= 1; d++ {
		n := new(big.Int).Add(q, big.NewInt(d))
		g := new(big.Int).Sub(x, new(big.Int).Mul(n, y))
		g.Abs(g)
		if best == nil || g.Cmp(gap) < 0 || g.Cmp(gap) == 0 && n.Bit(0) == 0 {
			best, gap = n, g
		}
	}
	return best
}

func TestHalves(t *testing.T) { // P3.2: Near, halfway between two
	for a := int64(-15); a <= 15; a++ {
		for b := int64(-6); b <= 6; b++ {
			if b != 0 {
				divisions(t, of(a), of(b))
			}
		}
	}
	for _, c := range [][3]int64{{5, 2, 2}, {-5, 2, -2}, {7, 2, 4}, {5, -2, -2}, {-7, -2, 4}, {1, 2, 0}, {3, 2, 2}, {-1, 2, 0}} {
		got, _ := zint.Near(of(c[0]), of(c[1]))
		want(t, "Near", got, big.NewInt(c[2]))
	}
}

func TestDivisionByNothing(t *testing.T) { // P3.2
	for _, zero := range []api.Int{{}, minusZero} {
		for _, a := range []api.Int{{}, of(7), of(-7)} {
			q, r, e := zint.Euclid(a, zero)
			fault(t, "Euclid", e, api.ErrZero, q, r)
			q, r, e = zint.Trunc(a, zero)
			fault(t, "Trunc", e, api.ErrZero, q, r)
			q, e = zint.Exact(a, zero)
			fault(t, "Exact", e, api.ErrZero, q)
			q, e = zint.Near(a, zero)
			fault(t, "Near", e, api.ErrZero, q)
		}
	}
}

func TestMod(t *testing.T) { // P3.2
	r := rand.New(rand.NewSource(2))
	for range 1000 {
		a, p := some(r, 4), r.Uint32()>>r.Intn(32)
		got, e := zint.Mod(a, p)
		if p == 0 {
			if e != api.ErrArg || got != 0 {
				t.Errorf("Mod by 0: %d, %d", got, e)
			}
			continue
		}
		w := new(big.Int).Mod(large(a), big.NewInt(int64(p)))
		if e != api.OK || int64(got) != w.Int64() {
			t.Errorf("Mod(%v, %d): %d, want %v", large(a), p, got, w)
		}
	}
	if got, _ := zint.Mod(of(-1), 7); got != 6 {
		t.Errorf("Mod(-1, 7): %d", got)
	}
	if got, e := zint.Mod(minusZero, 1); got != 0 || e != api.OK {
		t.Errorf("Mod(0, 1): %d", got)
	}
}

func TestGcdLcm(t *testing.T) { // P3.3, P3.7
	want(t, "Gcd()", zint.Gcd(), new(big.Int))
	want(t, "Lcm()", zint.Lcm(), big.NewInt(1))
	want(t, "Gcd(0, 0)", zint.Gcd(minusZero, of(0)), new(big.Int))
	want(t, "Gcd(-6)", zint.Gcd(of(-6)), big.NewInt(6))
	want(t, "Lcm(-6)", zint.Lcm(of(-6)), big.NewInt(6))
	want(t, "Gcd(0, -6, 9, 0)", zint.Gcd(of(0), of(-6), of(9), minusZero), big.NewInt(3))
	want(t, "Lcm(4, -6, 9)", zint.Lcm(of(4), of(-6), of(9)), big.NewInt(36))
	want(t, "Lcm(4, 0)", zint.Lcm(of(4), minusZero), new(big.Int))
	r := rand.New(rand.NewSource(3))
	for range 500 {
		k := some(r, 2)
		a, b, c := zint.Mul(k, some(r, 3)), zint.Mul(k, some(r, 3)), some(r, 3)
		x, y := large(a), large(b)
		g := new(big.Int).GCD(nil, nil, new(big.Int).Abs(x), new(big.Int).Abs(y))
		want(t, "Gcd", zint.Gcd(a, b), g)
		want(t, "Gcd of three", zint.Gcd(a, b, c), new(big.Int).GCD(nil, nil, g, new(big.Int).Abs(large(c))))
		ab := new(big.Int).Mul(x, y)
		want(t, "Gcd times Lcm", zint.Mul(zint.Gcd(a, b), zint.Lcm(a, b)), ab.Abs(ab))
		if l := zint.Lcm(a, b, c); zint.Sign(l) != 0 {
			for _, z := range []api.Int{a, b, c} {
				if _, e := zint.Exact(l, z); e != api.OK {
					t.Errorf("%v does not divide Lcm %v", z, l)
				}
			}
			want(t, "Lcm of three", zint.Lcm(zint.Lcm(a, b), c), large(l))
		} else if zint.Sign(a)*zint.Sign(b)*zint.Sign(c) != 0 {
			t.Errorf("Lcm(%v, %v, %v) is 0", a, b, c)
		}
	}
}

func TestBezout(t *testing.T) { // P3.3
	for _, c := range [][5]int64{{6, 4, 2, 1, -1}, {0, -5, 5, 0, -1}, {-5, 0, 5, -1, 0}, {5, 0, 5, 1, 0}, {0, 0, 0, 0, 0}, {0, 3, 3, 0, 1}, {4, 4, 4, 0, 1}, {4, -4, 4, 0, -1}, {1, 1, 1, 0, 1}} {
		g, x, y := zint.Bezout(of(c[0]), of(c[1]))
		want(t, fmt.Sprint("Bezout's g", c), g, big.NewInt(c[2]))
		want(t, fmt.Sprint("Bezout's x", c), x, big.NewInt(c[3]))
		want(t, fmt.Sprint("Bezout's y", c), y, big.NewInt(c[4]))
	}
	r := rand.New(rand.NewSource(4))
	for range 1500 {
		a, b := some(r, 4), some(r, 3)
		if r.Intn(3) == 0 {
			k := some(r, 2)
			a, b = zint.Mul(a, k), zint.Mul(b, k)
		}
		g, x, y := zint.Bezout(a, b)
		want(t, "Bezout's g", g, large(zint.Gcd(a, b)))
		want(t, "a x + b y", zint.Add(zint.Mul(a, x), zint.Mul(b, y)), large(g))
		if zint.Sign(b) == 0 {
			want(t, "x beside 0", x, big.NewInt(int64(zint.Sign(a))))
			want(t, "y beside 0", y, new(big.Int))
			continue
		}
		over, _ := zint.Exact(zint.Abs(b), g)
		if zint.Sign(x) < 0 || zint.Cmp(x, over) >= 0 {
			t.Errorf("Bezout(%v, %v): x is %v", a, b, x)
		}
		want(t, "y", y, large(y))
	}
}

func TestPow(t *testing.T) { // P3.4
	r := rand.New(rand.NewSource(5))
	for range 300 {
		a, k := some(r, 2), r.Intn(20)
		got, e := zint.Pow(a, k)
		fault(t, "Pow", e, api.OK)
		want(t, "Pow", got, new(big.Int).Exp(large(a), big.NewInt(int64(k)), nil))
	}
	for _, c := range []struct {
		a int64
		k int
		e api.Errno
		w int64
	}{
		{0, 0, api.OK, 1}, {0, 3, api.OK, 0}, {-1, math.MaxInt, api.OK, -1}, {-1, math.MaxInt - 1, api.OK, 1}, {-2, -1, api.ErrArg, 0}, {0, math.MinInt, api.ErrArg, 0},
		{-2, api.MaxNatBits, api.ErrTooBig, 0}, {3, math.MaxInt, api.ErrTooBig, 0}, {-2, 3, api.OK, -8},
	} {
		got, e := zint.Pow(of(c.a), c.k)
		fault(t, "Pow", e, c.e)
		want(t, "Pow", got, big.NewInt(c.w))
	}
	if got, e := zint.Pow(of(-2), api.MaxNatBits-1); e != api.OK || !got.Neg || len(got.Mag) != api.MaxNatBits/32 {
		t.Errorf("(-2)^(2^26 - 1): error %d", e)
	}
	got, e := zint.Pow(minusZero, 3)
	fault(t, "Pow of -0", e, api.OK)
	want(t, "Pow of -0", got, new(big.Int))
}

func TestSumProduct(t *testing.T) { // P3.1
	want(t, "Sum()", zint.Sum(), new(big.Int))
	want(t, "Product()", zint.Product(), big.NewInt(1))
	want(t, "Product(-0)", zint.Product(minusZero), new(big.Int))
	r := rand.New(rand.NewSource(6))
	for n := range 40 {
		var l []api.Int
		sum, product := new(big.Int), big.NewInt(1)
		for range n {
			x := some(r, 3)
			l = append(l, x)
			sum.Add(sum, large(x))
			product.Mul(product, large(x))
		}
		want(t, "Sum", zint.Sum(l...), sum)
		want(t, "Product", zint.Product(l...), product)
	}
}

func TestLaws(t *testing.T) { // P3.5
	r := rand.New(rand.NewSource(7))
	for range 300 {
		a, b, c := some(r, 3), some(r, 3), some(r, 3)
		for what, pair := range map[string][2]api.Int{
			"a + b":       {zint.Add(a, b), zint.Add(b, a)},
			"a b":         {zint.Mul(a, b), zint.Mul(b, a)},
			"(a + b) + c": {zint.Add(zint.Add(a, b), c), zint.Add(a, zint.Add(b, c))},
			"(a b) c":     {zint.Mul(zint.Mul(a, b), c), zint.Mul(a, zint.Mul(b, c))},
			"(a + b) c":   {zint.Mul(zint.Add(a, b), c), zint.Add(zint.Mul(a, c), zint.Mul(b, c))},
			"a - b":       {zint.Sub(a, b), zint.Add(a, zint.Neg(b))},
			"- - a":       {zint.Neg(zint.Neg(a)), zint.Norm(a)},
		} {
			if pair[0].Neg != pair[1].Neg || !slices.Equal(pair[0].Mag, pair[1].Mag) {
				t.Errorf("%s: %v, %v", what, pair[0], pair[1])
			}
		}
	}
}

func TestMemory(t *testing.T) { // R3: what is handed in stays, what is answered is new
	calls := map[string]func(a, b api.Int) []api.Int{
		"Norm":    func(a, b api.Int) []api.Int { return []api.Int{zint.Norm(a)} },
		"Neg":     func(a, b api.Int) []api.Int { return []api.Int{zint.Neg(a)} },
		"Abs":     func(a, b api.Int) []api.Int { return []api.Int{zint.Abs(a)} },
		"Add":     func(a, b api.Int) []api.Int { return []api.Int{zint.Add(a, b)} },
		"Sub":     func(a, b api.Int) []api.Int { return []api.Int{zint.Sub(a, b)} },
		"Mul":     func(a, b api.Int) []api.Int { return []api.Int{zint.Mul(a, b)} },
		"Euclid":  func(a, b api.Int) []api.Int { x, y, _ := zint.Euclid(a, b); return []api.Int{x, y} },
		"Trunc":   func(a, b api.Int) []api.Int { x, y, _ := zint.Trunc(a, b); return []api.Int{x, y} },
		"Exact":   func(a, b api.Int) []api.Int { x, _ := zint.Exact(a, b); return []api.Int{x} },
		"Near":    func(a, b api.Int) []api.Int { x, _ := zint.Near(a, b); return []api.Int{x} },
		"Gcd":     func(a, b api.Int) []api.Int { return []api.Int{zint.Gcd(a), zint.Gcd(a, b)} },
		"Lcm":     func(a, b api.Int) []api.Int { return []api.Int{zint.Lcm(a), zint.Lcm(a, b)} },
		"Bezout":  func(a, b api.Int) []api.Int { x, y, z := zint.Bezout(a, b); return []api.Int{x, y, z} },
		"Pow":     func(a, b api.Int) []api.Int { x, _ := zint.Pow(a, 1); return []api.Int{x} },
		"Sum":     func(a, b api.Int) []api.Int { return []api.Int{zint.Sum(a), zint.Sum(a, b)} },
		"Product": func(a, b api.Int) []api.Int { return []api.Int{zint.Product(a), zint.Product(a, b)} },
	}
	pairs := [][2]api.Nat{{{9}, nil}, {{1, 2, 3, 4}, {1}}, {{7, 7}, {7, 7}}, {{3, 3, 3}, {0}}, {{5}, {1, 2, 3}}, {{1}, {1}}, {nil, {6}}}
	for what, call := range calls {
		for k, p := range pairs {
			rooms := [2]api.Nat{append(slices.Clone(p[0]), 11, 12), append(slices.Clone(p[1]), 13, 14)}
			kept := [2]api.Nat{slices.Clone(rooms[0]), slices.Clone(rooms[1])}
			a, b := api.Int{Neg: k%2 == 0, Mag: rooms[0][:len(p[0])]}, api.Int{Neg: k%3 == 0, Mag: rooms[1][:len(p[1])]}
			text := fmt.Sprint(call(a, b))
			out := call(a, b)
			for i := range out {
				room := out[i].Mag[:cap(out[i].Mag)]
				for j := range room {
					room[j] = uint32(i) + 77
				}
			}
			for i := range out {
				for _, x := range out[i].Mag {
					if x != uint32(i)+77 {
						t.Errorf("%s: two answers share memory", what)
					}
				}
			}
			if !slices.Equal(rooms[0], kept[0]) || !slices.Equal(rooms[1], kept[1]) || fmt.Sprint(call(a, b)) != text {
				t.Errorf("%s changes what is handed in, or shares it", what)
			}
		}
	}
}
