package zpoly_test

import (
	"fmt"
	"math/big"
	"math/rand"
	"testing"

	"simile/api"
	"simile/zint"
	"simile/zpoly"
)

// nought are forms of the polynomial 0.
var nought = []api.IntPoly{nil, {}, {{}}, {{Neg: true, Mag: api.Nat{0}}, {}}}

func TestForms(t *testing.T) { // P7.1
	r := rand.New(rand.NewSource(1))
	for range 300 {
		a, b := some(r, 5), some(r, 5)
		l := list(a)
		want(t, "Norm", zpoly.Norm(a), l)
		if d := zpoly.Degree(a); d != len(l)-1 {
			t.Errorf("Degree(%v): %d", l, d)
		}
		lead := new(big.Int)
		if len(l) > 0 {
			lead = l[len(l)-1]
		}
		wantInt(t, "Lead", zpoly.Lead(a), lead)
		if zpoly.Equal(a, b) != (fmt.Sprint(l) == fmt.Sprint(list(b))) || !zpoly.Equal(a, zpoly.Norm(a)) {
			t.Errorf("Equal(%v, %v)", l, list(b))
		}
		height := new(big.Int)
		for _, x := range l {
			if x.CmpAbs(height) > 0 {
				height.Abs(x)
			}
		}
		wantInt(t, "Height", zpoly.Height(a), height)
	}
	for _, z := range nought {
		want(t, "Norm of 0", zpoly.Norm(z), nil)
		wantInt(t, "Lead of 0", zpoly.Lead(z), new(big.Int))
		if zpoly.Degree(z) != -1 || !zpoly.Equal(z, nil) || zpoly.Equal(z, of(1)) {
			t.Errorf("0 as %v", z)
		}
	}
	if !zpoly.Equal(of(1, 2), append(of(1, 2), api.Int{Neg: true})) || zpoly.Equal(of(1, 2), of(1, -2)) || zpoly.Equal(of(1, 2), of(1)) {
		t.Error("Equal")
	}
}

func TestReckoning(t *testing.T) { // P7.1, P7.6
	r := rand.New(rand.NewSource(2))
	for range 500 {
		a, b := some(r, 6), some(r, 6)
		x := api.Int{Neg: r.Intn(2) == 0, Mag: api.Nat{uint32(r.Intn(20)), 0}}
		sum, difference := make([]*big.Int, 12), make([]*big.Int, 12)
		la, lb := list(a), list(b)
		for i := range sum {
			sum[i], difference[i] = new(big.Int), new(big.Int)
			if i < len(la) {
				sum[i].Add(sum[i], la[i])
				difference[i].Add(difference[i], la[i])
			}
			if i < len(lb) {
				sum[i].Add(sum[i], lb[i])
				difference[i].Sub(difference[i], lb[i])
			}
		}
		want(t, "Add", zpoly.Add(a, b), trimmed(sum))
		want(t, "Sub", zpoly.Sub(a, b), trimmed(difference))
		want(t, "Mul", zpoly.Mul(a, b), product(la, lb))
		want(t, "Scale", zpoly.Scale(a, x), product(la, list(api.IntPoly{x})))
		wantInt(t, "Eval", zpoly.Eval(a, x), value(la, large(x)))
		ax, bx := zpoly.Eval(a, x), zpoly.Eval(b, x)
		wantInt(t, "Eval of a sum", zpoly.Eval(zpoly.Add(a, b), x), large(zint.Add(ax, bx)))
		wantInt(t, "Eval of a product", zpoly.Eval(zpoly.Mul(a, b), x), large(zint.Mul(ax, bx)))
		var slope []*big.Int
		for i := 1; i < len(la); i++ {
			slope = append(slope, new(big.Int).Mul(la[i], big.NewInt(int64(i))))
		}
		want(t, "Derive", zpoly.Derive(a), slope)
	}
	want(t, "Scale by 0", zpoly.Scale(of(1, 2), api.Int{Neg: true}), nil)
}

func trimmed(l []*big.Int) []*big.Int {
	for len(l) > 0 && l[len(l)-1].Sign() == 0 {
		l = l[:len(l)-1]
	}
	return l
}

func value(l []*big.Int, x *big.Int) *big.Int {
	out := new(big.Int)
	for i := len(l) - 1; i >= 0; i-- {
		out.Add(out.Mul(out, x), l[i])
	}
	return out
}

func TestContent(t *testing.T) { // P7.2, P7.4
	r := rand.New(rand.NewSource(3))
	for range 300 {
		a, b := zpoly.Scale(some(r, 5), zint.Of(int64(r.Intn(7)))), some(r, 5)
		content := new(big.Int)
		for _, x := range list(a) {
			content.GCD(nil, nil, content, new(big.Int).Abs(x))
		}
		wantInt(t, "Content", zpoly.Content(a), content)
		c, p := zpoly.Primitive(a)
		want(t, "Primitive's product", zpoly.Scale(p, c), list(a))
		if len(p) > 0 && (zpoly.Lead(p).Neg || large(zpoly.Content(p)).Int64() != 1) {
			t.Errorf("Primitive(%v): %v, %v", list(a), c, p)
		}
		wantInt(t, "Content of a product", zpoly.Content(zpoly.Mul(a, b)), large(zint.Mul(zpoly.Content(a), zpoly.Content(b))))
	}
	c, p := zpoly.Primitive(of(4, -2))
	wantInt(t, "Primitive(-2x + 4)", c, big.NewInt(-2))
	want(t, "Primitive(-2x + 4)", p, list(of(-2, 1)))
	for _, z := range nought {
		c, p := zpoly.Primitive(z)
		wantInt(t, "Primitive(0)", c, new(big.Int))
		want(t, "Primitive(0)", p, nil)
		wantInt(t, "Content(0)", zpoly.Content(z), new(big.Int))
	}
}

func TestPseudo(t *testing.T) { // P7.2
	r := rand.New(rand.NewSource(4))
	for range 500 {
		a, b := some(r, 8), some(r, 5)
		q, rest, e := zpoly.Pseudo(a, b)
		if zpoly.Degree(b) < 0 {
			if e != api.ErrZero || len(q)+len(rest) > 0 {
				t.Errorf("Pseudo by 0: %v, %v, %d", q, rest, e)
			}
			continue
		}
		d := zpoly.Degree(a) - zpoly.Degree(b)
		if d < 0 {
			want(t, "Pseudo's quotient", q, nil)
			want(t, "Pseudo's rest", rest, list(a))
			continue
		}
		lead, _ := zint.Pow(zpoly.Lead(b), d+1)
		want(t, "q b + r", zpoly.Add(zpoly.Mul(q, b), rest), list(zpoly.Scale(a, lead)))
		want(t, "q's form", q, list(q))
		want(t, "r's form", rest, list(rest))
		if zpoly.Degree(rest) >= zpoly.Degree(b) || e != api.OK {
			t.Errorf("Pseudo(%v, %v) leaves %v", list(a), list(b), list(rest))
		}
	}
	q, rest, _ := zpoly.Pseudo(of(0, 0, 1), of(1, 2))
	want(t, "Pseudo(x^2, 2x + 1)", q, list(of(-1, 2)))
	want(t, "Pseudo(x^2, 2x + 1)", rest, list(of(1)))
}

func TestExact(t *testing.T) { // P7.2
	r := rand.New(rand.NewSource(5))
	for range 500 {
		a, b, c := some(r, 5), some(r, 5), some(r, 3)
		ab := zpoly.Mul(a, b)
		q, e := zpoly.Exact(ab, b)
		if zpoly.Degree(b) < 0 {
			if e != api.ErrZero || len(q) > 0 {
				t.Errorf("Exact by 0: %v, %d", q, e)
			}
			continue
		}
		if want(t, "Exact", q, list(a)); e != api.OK {
			t.Errorf("Exact: %d", e)
		}
		if d := zpoly.Degree(c); d >= 0 && d < zpoly.Degree(b) {
			if q, e := zpoly.Exact(zpoly.Add(ab, c), b); e != api.ErrZintExact || len(q) > 0 {
				t.Errorf("Exact of what b does not divide: %v, %d", q, e)
			}
		}
	}
	for _, c := range [][2]api.IntPoly{{of(0, 1), of(2)}, {of(1), of(0, 1)}, {of(1, 0, 1), of(1, 1)}, {of(1, 3), of(1, 2)}, {of(2, 4), of(4, 8)}} {
		if q, e := zpoly.Exact(c[0], c[1]); e != api.ErrZintExact || len(q) > 0 {
			t.Errorf("Exact(%v, %v): %v, %d", c[0], c[1], q, e)
		}
	}
	for _, z := range nought {
		if q, e := zpoly.Exact(of(1), z); e != api.ErrZero || len(q) > 0 {
			t.Errorf("Exact by 0: %d", e)
		}
		if q, e := zpoly.Exact(z, of(1, 2)); e != api.OK || len(q) > 0 {
			t.Errorf("Exact of 0: %d", e)
		}
		if _, e := zpoly.Exact(z, z); e != api.ErrZero {
			t.Errorf("Exact of 0 by 0: %d", e)
		}
	}
}

func TestGcd(t *testing.T) { // P7.3, P7.4
	r := rand.New(rand.NewSource(6))
	for range 500 {
		a, b, c := some(r, 4), some(r, 4), some(r, 4)
		g := zpoly.Gcd(a, b)
		want(t, "Gcd's form", g, list(g))
		if zpoly.Degree(a) < 0 && zpoly.Degree(b) < 0 {
			want(t, "Gcd(0, 0)", g, nil)
			continue
		}
		x, e := zpoly.Exact(a, g)
		y, e2 := zpoly.Exact(b, g)
		if e != api.OK || e2 != api.OK || zpoly.Lead(g).Neg {
			t.Fatalf("Gcd(%v, %v): %v", list(a), list(b), g)
		}
		// what is left has no common divisor: no number, and no polynomial (P7.5)
		if zint.Cmp(zint.Gcd(zpoly.Content(x), zpoly.Content(y)), zint.Of(1)) != 0 || sylvester(list(x), list(y)).Sign() == 0 && zpoly.Degree(x)*zpoly.Degree(y) != 0 && zpoly.Degree(x)+zpoly.Degree(y) > 0 {
			t.Errorf("Gcd(%v, %v): %v is too small", list(a), list(b), list(g))
		}
		want(t, "Gcd the other way round", zpoly.Gcd(b, a), list(g))
		gc := zpoly.Mul(g, c)
		if zpoly.Lead(c).Neg {
			gc = zpoly.Scale(gc, zint.Of(-1))
		}
		want(t, "Gcd(a c, b c)", zpoly.Gcd(zpoly.Mul(a, c), zpoly.Mul(b, c)), list(gc))
	}
	for _, c := range [][3]api.IntPoly{{of(-4, 0, 4), of(-6, 6), of(-2, 2)}, {of(-6), of(4), of(2)}, {nil, of(-4, -2), of(4, 2)}, {of(6, -4), nil, of(-6, 4)}, {of(6), of(0, 4), of(2)}, {of(2, 2), of(2, 2), of(2, 2)}, {of(1, 1), of(-1, 1), of(1)}} {
		want(t, "Gcd", zpoly.Gcd(c[0], c[1]), list(c[2]))
	}
}

func TestResultant(t *testing.T) { // P7.3, P7.5
	r := rand.New(rand.NewSource(7))
	for range 600 {
		a, b, c := some(r, 5), some(r, 5), some(r, 3)
		if r.Intn(3) == 0 {
			a, b = zpoly.Mul(a, c), zpoly.Mul(b, c)
		}
		res := zpoly.Resultant(a, b)
		wantInt(t, fmt.Sprint("Resultant", list(a), list(b)), res, sylvester(list(a), list(b)))
		da, db := zpoly.Degree(a), zpoly.Degree(b)
		if da < 0 || db < 0 {
			continue
		}
		if (zint.Sign(res) == 0) != (zpoly.Degree(zpoly.Gcd(a, b)) > 0) {
			t.Errorf("Resultant(%v, %v): %v", list(a), list(b), large(res))
		}
		other := large(zpoly.Resultant(b, a))
		if da%2 == 1 && db%2 == 1 {
			other.Neg(other)
		}
		wantInt(t, "Resultant the other way round", res, other)
		if zpoly.Degree(c) >= 0 {
			wantInt(t, "Resultant(a, b c)", zpoly.Resultant(a, zpoly.Mul(b, c)), large(zint.Mul(res, zpoly.Resultant(a, c))))
		}
	}
	for _, c := range []struct {
		a, b api.IntPoly
		w    int64
	}{{of(1, 0, 1), of(-2, 1), 5}, {of(3), of(0, 0, 1), 9}, {of(0, 0, 1), of(-3), 9}, {of(2), of(3), 1}, {nil, of(3), 0}, {of(1, 1), nil, 0}, {nil, nil, 0}, {of(1, 1), of(2, 1), 1}, {of(2, 1), of(1, 1), -1}, {of(1, 0, 0, 1), of(-2, 0, 0, 0, 1), -7}} {
		wantInt(t, fmt.Sprint("Resultant", list(c.a), list(c.b)), zpoly.Resultant(c.a, c.b), big.NewInt(c.w))
	}
	// far apart: x^2000 + 1 at 2, and a chain with gaps
	long := make(api.IntPoly, 2001)
	long[0], long[2000] = zint.Of(1), zint.Of(1)
	w := new(big.Int).Lsh(big.NewInt(1), 2000)
	wantInt(t, "Resultant(x^2000 + 1, x - 2)", zpoly.Resultant(long, of(-2, 1)), w.Add(w, big.NewInt(1)))
	a, b := of(5, 0, 0, 0, 0, 0, 3, 0, 2), of(7, 0, 0, 1, 0, 0, -4)
	wantInt(t, "Resultant with gaps", zpoly.Resultant(a, b), sylvester(list(a), list(b)))
}

func TestMemory(t *testing.T) { // R3: what is handed in stays, what is answered is new
	calls := map[string]func(a, b api.IntPoly) []api.IntPoly{
		"Norm":      func(a, b api.IntPoly) []api.IntPoly { return []api.IntPoly{zpoly.Norm(a)} },
		"Lead":      func(a, b api.IntPoly) []api.IntPoly { return []api.IntPoly{{zpoly.Lead(a)}} },
		"Height":    func(a, b api.IntPoly) []api.IntPoly { return []api.IntPoly{{zpoly.Height(a)}} },
		"Content":   func(a, b api.IntPoly) []api.IntPoly { return []api.IntPoly{{zpoly.Content(a)}} },
		"Resultant": func(a, b api.IntPoly) []api.IntPoly { return []api.IntPoly{{zpoly.Resultant(a, b)}} },
		"Eval":      func(a, b api.IntPoly) []api.IntPoly { return []api.IntPoly{{zpoly.Eval(a, api.Int{})}} },
		"Add":       func(a, b api.IntPoly) []api.IntPoly { return []api.IntPoly{zpoly.Add(a, b)} },
		"Sub":       func(a, b api.IntPoly) []api.IntPoly { return []api.IntPoly{zpoly.Sub(a, b)} },
		"Mul":       func(a, b api.IntPoly) []api.IntPoly { return []api.IntPoly{zpoly.Mul(a, b)} },
		"Scale":     func(a, b api.IntPoly) []api.IntPoly { return []api.IntPoly{zpoly.Scale(a, zint.Of(1))} },
		"Derive":    func(a, b api.IntPoly) []api.IntPoly { return []api.IntPoly{zpoly.Derive(a)} },
		"Gcd":       func(a, b api.IntPoly) []api.IntPoly { return []api.IntPoly{zpoly.Gcd(a, b)} },
		"Exact": func(a, b api.IntPoly) []api.IntPoly {
			x, _ := zpoly.Exact(a, of(1))
			y, _ := zpoly.Exact(zpoly.Mul(a, b), b)
			return []api.IntPoly{x, y}
		},
		"Primitive": func(a, b api.IntPoly) []api.IntPoly {
			c, p := zpoly.Primitive(a)
			return []api.IntPoly{{c}, p}
		},
		"Pseudo": func(a, b api.IntPoly) []api.IntPoly {
			q, rest, _ := zpoly.Pseudo(a, b)
			return []api.IntPoly{q, rest}
		},
	}
	r := rand.New(rand.NewSource(8))
	for what, call := range calls {
		for range 40 {
			a, b := some(r, 5), some(r, 4)
			a, b = append(a, of(5, 6)...)[:len(a)], append(b, of(5, 6)...)[:len(b)]
			kept := fmt.Sprint(a[:len(a)+2], b[:len(b)+2])
			text := fmt.Sprint(call(a, b))
			out := call(a, b)
			mark := uint32(0)
			for _, p := range out {
				for i := range p {
					mark++
					room := p[i].Mag[:cap(p[i].Mag)]
					for k := range room {
						room[k] = mark
					}
				}
			}
			mark = 0
			for _, p := range out {
				for i := range p {
					mark++
					for _, x := range p[i].Mag {
						if x != mark {
							t.Errorf("%s: two lists of the answer share memory", what)
						}
					}
					p[i] = api.Int{}
				}
			}
			if fmt.Sprint(a[:len(a)+2], b[:len(b)+2]) != kept || fmt.Sprint(call(a, b)) != text {
				t.Errorf("%s changes what is handed in, or shares it", what)
			}
		}
	}
}
