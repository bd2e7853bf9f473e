package modroute_test

import (
	"fmt"
	"math"
	"math/big"
	"math/rand"
	"testing"

	"simile/api"
	"simile/charfree"
	"simile/modroute"
	"simile/zint"
)

// checkCert holds a certificate against what it promises of a matrix, reckoned by math/big.
func checkCert(t *testing.T, m api.Mat, c api.Cert) {
	t.Helper()
	d := big.NewInt(1)
	for _, row := range list(m) {
		for _, x := range row {
			g := new(big.Int).GCD(nil, nil, d, x.Denom())
			d.Mul(d, new(big.Int).Div(x.Denom(), g))
		}
	}
	if large(c.D).Cmp(d) != 0 || !normalInt(c.D) || !normalInt(c.Bound) {
		t.Errorf("the certificate of %v: D is %v, want %v", m, c.D, d)
	}
	whole := plus(list(m), list(m), new(big.Rat).SetInt(new(big.Int).Sub(d, big.NewInt(1))))
	char := charOf(whole)
	for _, x := range char {
		if x.Num().CmpAbs(large(c.Bound)) > 0 {
			t.Errorf("the certificate of %v: Bound is %v, a coefficient %v", m, c.Bound, x)
		}
	}
	twice := new(big.Int).Lsh(large(c.Bound), 1)
	product := big.NewInt(1)
	seen := map[uint32]int{}
	for _, x := range c.Pairs {
		p := big.NewInt(int64(x.P))
		if product.Cmp(twice) > 0 || !p.ProbablyPrime(0) || new(big.Int).Mod(d, p).Sign() == 0 || seen[x.P] > 0 {
			t.Errorf("the certificate of %v: %v", m, x.P)
		}
		seen[x.P]++
		product.Mul(product, p)
		ok := len(x.C) == len(char)
		for i := 0; ok && i < len(char); i++ {
			ok = big.NewInt(int64(x.C[i])).Cmp(new(big.Int).Mod(char[i].Num(), p)) == 0
		}
		if !ok {
			t.Errorf("the certificate of %v: modulo %d %v", m, x.P, x.C)
		}
	}
	if product.Cmp(twice) <= 0 {
		t.Errorf("the certificate of %v: too few primes", m)
	}
}

func TestChar(t *testing.T) { // P23.1, P23.4, P23.5
	r := rand.New(rand.NewSource(1))
	for k := range 120 {
		n := r.Intn(5) + 1
		m := some(r, n, n)
		if k%5 == 0 {
			for _, row := range m.Num {
				for i := range row {
					row[i] = api.Int{Neg: r.Intn(2) == 0, Mag: api.Nat{r.Uint32(), r.Uint32(), r.Uint32()}}
				}
			}
			m.Den = zint.Of(4294967291 * int64(r.Intn(2)+1))
		}
		f, c, e := modroute.Char(m)
		wantPoly(t, fmt.Sprint("Char ", m), f, e, charOf(list(m)))
		checkCert(t, m, c)
		back, e := modroute.Lift(c)
		wantPoly(t, "Lift of Char's certificate", back, e, listPoly(f))
		free, _ := charfree.Berkowitz(m)
		wantPoly(t, "chapter 20's", free, e, listPoly(f))
		var primes []uint32
		for _, x := range c.Pairs {
			primes = append(primes, x.P)
		}
		for _, workers := range []int{1, 3, 16} {
			pairs, e := modroute.Images(m, workers, primes...)
			if fmt.Sprint(pairs) != fmt.Sprint(c.Pairs) || e != api.OK {
				t.Errorf("Images of Char's primes by %d: %v, %d", workers, pairs, e)
			}
		}
	}
}

func TestLarge(t *testing.T) { // 24 rows, and numbers at the limit
	r := rand.New(rand.NewSource(2))
	l := make([]int64, 24*24)
	for i := range l {
		l[i] = int64(r.Intn(1999) - 999)
	}
	m := of(7, 24, l...)
	f, c, e := modroute.Char(m)
	wantPoly(t, "Char of 24 rows", f, e, charOf(list(m)))
	checkCert(t, m, c)
	m = api.Mat{Den: bits(4095), Num: [][]api.Int{{zint.Of(1), zint.Of(3)}, {zint.Of(5), bits(4094)}}}
	f, c, e = modroute.Char(m)
	wantPoly(t, "Char of 4096 bits", f, e, charOf(list(m)))
	checkCert(t, m, c)
}

func TestManyPrimes(t *testing.T) { // more primes than bound.Choose lists: denominators without a common divisor
	m := api.Mat{Den: zint.Of(1)}
	product := big.NewInt(1)
	var dens []*big.Int
	for k := range 25 {
		d := new(big.Int).Sub(new(big.Int).Lsh(big.NewInt(1), 2800), big.NewInt(int64(2*k+1)))
		dens = append(dens, d)
		product.Mul(product, d)
	}
	m.Den = integer(product)
	for i := range 5 {
		var row []api.Int
		for k := range 5 {
			row = append(row, integer(new(big.Int).Div(product, dens[5*i+k])))
		}
		m.Num = append(m.Num, row)
	}
	f, c, e := modroute.Char(m)
	if e != api.OK || len(c.Pairs) <= 10000 {
		t.Fatalf("Char of many denominators: %d, %d primes", e, len(c.Pairs))
	}
	free, _ := charfree.Berkowitz(m)
	wantPoly(t, "Char of many denominators", f, e, listPoly(free))
}

// integer: one of math/big as it is here.
func integer(x *big.Int) api.Int {
	text := x.Bytes()
	out := api.Int{Neg: x.Sign() < 0, Mag: make(api.Nat, (len(text)+3)/4)}
	for i := range text {
		out.Mag[i/4] |= uint32(text[len(text)-1-i]) << (8 * (i % 4))
	}
	return out
}

func TestExamples(t *testing.T) {
	m := api.Mat{Den: zint.Of(6), Num: of(1, 2, 3, 6, 0, 2).Num}
	f, c, e := modroute.Char(m)
	wantPoly(t, "Char", f, e, poly{big.NewRat(1, 6), big.NewRat(-5, 6), big.NewRat(1, 1)})
	if large(c.D).Int64() != 6 {
		t.Errorf("Char: D is %v", c.D)
	}
	pairs, e := modroute.Images(m, 1, 13, 2, 13, 3)
	if fmt.Sprint(pairs, int(e)) != "[{13 [6 8 1]} {2 [0 1 1]} {13 [6 8 1]} {3 [0 1 1]}] 0" {
		t.Errorf("Images: %v, %d", pairs, e)
	}
	pairs, e = modroute.Images(m, 16)
	fault(t, "Images of no primes", e, api.OK, pairs)
	f, e = modroute.Lift(api.Cert{D: zint.Of(6), Bound: zint.Of(6), Pairs: []api.Pair{{P: 13, C: api.ModPoly{6, 8, 1}}}})
	wantPoly(t, "Lift", f, e, poly{big.NewRat(1, 6), big.NewRat(-5, 6), big.NewRat(1, 1)})
	f, e = modroute.Lift(api.Cert{D: zint.Of(1), Bound: zint.Of(1), Pairs: []api.Pair{{P: 5, C: api.ModPoly{4, 1}}, {P: 7, C: api.ModPoly{6, 1}}}})
	wantPoly(t, "Lift", f, e, listPoly(coeffs(-1, 1)))
}

func TestLift(t *testing.T) { // P23.2
	good := api.Cert{D: zint.Of(2), Bound: zint.Of(0), Pairs: []api.Pair{{P: 5, C: api.ModPoly{4, 1}}, {P: 7, C: api.ModPoly{6, 1}}}}
	with := func(change func(c *api.Cert)) api.Cert {
		c := api.Cert{D: good.D, Bound: good.Bound, Pairs: append([]api.Pair{}, good.Pairs...)}
		change(&c)
		return c
	}
	for what, c := range map[string]struct {
		c api.Cert
		e api.Errno
	}{
		"D 0":            {with(func(c *api.Cert) { c.D, c.Pairs[0].P = zint.Of(0), 4 }), api.ErrArg},
		"D -1":           {with(func(c *api.Cert) { c.D = zint.Of(-1) }), api.ErrArg},
		"Bound -1":       {with(func(c *api.Cert) { c.Bound, c.Pairs[0].P = zint.Of(-1), 7 }), api.ErrArg},
		"no pairs":       {with(func(c *api.Cert) { c.Pairs = nil }), api.ErrArg},
		"nothing":        {api.Cert{}, api.ErrArg},
		"no prime":       {with(func(c *api.Cert) { c.Pairs[1].P = 9 }), api.ErrPrime},
		"no prime last":  {with(func(c *api.Cert) { c.Pairs = append(c.Pairs, c.Pairs[0], api.Pair{P: 1}) }), api.ErrPrime},
		"twice":          {with(func(c *api.Cert) { c.Pairs[1] = api.Pair{P: 5} }), api.ErrCrtTwice},
		"unlike degrees": {with(func(c *api.Cert) { c.Pairs[1].C = api.ModPoly{1, 2, 1} }), api.ErrArg},
		"not monic":      {with(func(c *api.Cert) { c.Pairs[0].C = api.ModPoly{4, 2} }), api.ErrArg},
		"lead 0":         {with(func(c *api.Cert) { c.Pairs[0].C = api.ModPoly{4, 5} }), api.ErrArg},
		"0":              {with(func(c *api.Cert) { c.Pairs[0].C = nil }), api.ErrArg},
		"degree 25":      {api.Cert{D: zint.Of(1), Pairs: []api.Pair{{P: 3, C: append(make(api.ModPoly, 25), 1)}}}, api.ErrArg},
	} {
		f, e := modroute.Lift(c.c)
		fault(t, "Lift of "+what, e, c.e, f)
	}
	f, e := modroute.Lift(good)
	wantPoly(t, "Lift", f, e, poly{big.NewRat(-1, 2), big.NewRat(1, 1)})
	// not normal: 9 is 4 modulo 5, and noughts at the top
	f, e = modroute.Lift(with(func(c *api.Cert) {
		c.Pairs[0].C = api.ModPoly{9, 6, 0, 5}
		c.D.Mag = append(c.D.Mag, 0)
		c.Bound = api.Int{Neg: true, Mag: api.Nat{0}}
	}))
	wantPoly(t, "Lift of what is not normal", f, e, poly{big.NewRat(-1, 2), big.NewRat(1, 1)})
	f, e = modroute.Lift(api.Cert{D: zint.Of(3), Pairs: []api.Pair{{P: 2, C: api.ModPoly{1, 0, 1}}}})
	wantPoly(t, "Lift modulo 2", f, e, poly{big.NewRat(1, 9), big.NewRat(0, 1), big.NewRat(1, 1)}) // half of the product is taken as it is
	f, e = modroute.Lift(api.Cert{D: zint.Of(3), Pairs: []api.Pair{{P: 5, C: api.ModPoly{3, 2, 1}}}})
	wantPoly(t, "Lift modulo 5", f, e, poly{big.NewRat(-2, 9), big.NewRat(2, 3), big.NewRat(1, 1)})
	f, e = modroute.Lift(api.Cert{D: zint.Of(3), Pairs: []api.Pair{{P: 5, C: api.ModPoly{1}}}})
	wantPoly(t, "Lift of degree 0", f, e, listPoly(coeffs(1)))
	f, e = modroute.Lift(api.Cert{D: zint.Of(1), Pairs: []api.Pair{{P: 3, C: append(make(api.ModPoly, 24), 1)}}})
	wantPoly(t, "Lift of degree 24", f, e, listPoly(append(coeffs(make([]int64, 24)...), ratio(1, 1))))
}

func TestFaults(t *testing.T) { // the errors, in their order
	ragged := api.Mat{Den: zint.Of(1), Num: [][]api.Int{{zint.Of(1)}, {}}}
	for _, c := range []struct {
		m api.Mat
		e api.Errno
	}{
		{api.Mat{}, api.ErrDen}, {api.Mat{Num: ragged.Num}, api.ErrDen}, {ragged, api.ErrShape}, {of(1, 2, 1, 2), api.ErrNotSquare}, {of(1, 1), api.ErrNotSquare}, {of(1, 1, 1, 2), api.ErrNotSquare},
		{of(1, 25, make([]int64, 625)...), api.ErrTooBig}, {api.Mat{Den: zint.Of(1), Num: [][]api.Int{{bits(4096)}}}, api.ErrTooBig},
	} {
		f, cert, e := modroute.Char(c.m)
		fault(t, "Char", e, c.e, f, cert)
		pairs, e := modroute.Images(c.m, 0, 4)
		fault(t, "Images", e, c.e, pairs)
	}
	for _, workers := range []int{0, -1, 17, math.MinInt, math.MaxInt} {
		pairs, e := modroute.Images(of(1, 1, 1), workers, 4)
		fault(t, "Images", e, api.ErrArg, pairs)
	}
	for _, p := range []uint32{0, 1, 4, math.MaxUint32} {
		pairs, e := modroute.Images(of(1, 1, 1), 2, 5, 5, p)
		fault(t, "Images", e, api.ErrPrime, pairs)
	}
}

func TestMemory(t *testing.T) { // R3, R4
	r := rand.New(rand.NewSource(3))
	for range 15 {
		m := some(r, 3, 3)
		primes := append(make([]uint32, 0, 5), 3, 5, 3)
		cert := api.Cert{D: zint.Of(1), Bound: zint.Of(1), Pairs: []api.Pair{{P: 5, C: api.ModPoly{9, 1, 0}}, {P: 7, C: api.ModPoly{6, 1}}}}
		given := []any{m, primes, cert}
		memory(t, "Char", given, func() []any { x, y, _ := modroute.Char(m); return []any{x, y} })
		memory(t, "Lift", given, func() []any { x, _ := modroute.Lift(cert); return []any{x} })
		memory(t, "Images", given, func() []any { x, _ := modroute.Images(m, 3, primes...); return []any{x} })
	}
}
