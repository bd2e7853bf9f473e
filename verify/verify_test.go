package verify_test

import (
	"fmt"
	"math"
	"math/rand"
	"testing"

	"simile/api"
	"simile/commute"
	"simile/companion"
	"simile/frob"
	"simile/modroute"
	"simile/qmat"
	"simile/simil"
	"simile/verify"
	"simile/zint"
)

// conjugated: the same matrix in another basis.
func conjugated(r *rand.Rand, m api.Mat, steps int) api.Mat {
	n := len(m.Num)
	for range steps {
		i, k := r.Intn(n), r.Intn(n)
		if i == k {
			continue
		}
		c := int64(r.Intn(3) - 1)
		step, _ := qmat.Identity(n)
		step.Num[i][k] = zint.Of(c)
		back, _ := qmat.Identity(n)
		back.Num[i][k] = zint.Of(-c)
		m, _ = qmat.Mul(back, m)
		m, _ = qmat.Mul(m, step)
	}
	return m
}

// family tells a matrix with several invariant factors, now and then with fractions.
func family(r *rand.Rand, n int) api.Mat {
	if r.Intn(2) == 0 {
		return some(r, n, n)
	}
	m, _ := qmat.Zero(n, n)
	for i := range n {
		m.Num[i][i] = zint.Of(int64(r.Intn(2)))
		if i+1 < n {
			m.Num[i][i+1] = zint.Of(int64(r.Intn(2)))
		}
	}
	return conjugated(r, m, n)
}

// raised: the same matrix with one entry one greater.
func raised(m api.Mat, i, k int) api.Mat {
	rows, _ := qmat.Rows(m)
	rows[i][k] = api.Rat{Num: zint.Add(rows[i][k].Num, rows[i][k].Den), Den: rows[i][k].Den}
	out, _ := qmat.From(rows...)
	return out
}

// stretched: the same matrix, not in normal form.
func stretched(m api.Mat) api.Mat {
	out := api.Mat{Den: zint.Mul(m.Den, zint.Of(-3))}
	for _, row := range m.Num {
		var l []api.Int
		for _, x := range row {
			x = zint.Mul(x, zint.Of(-3))
			x.Mag = append(x.Mag, 0)
			l = append(l, x)
		}
		out.Num = append(out.Num, l)
	}
	return out
}

func want(t *testing.T, what string, got api.Claim, e api.Errno, w api.Claim) {
	t.Helper()
	if got != w || e != api.OK {
		t.Errorf("%s: %q, %d, want %q", what, verify.Name(got), e, verify.Name(w))
	}
}

func TestForm(t *testing.T) { // P27.1, P27.6, P27.7
	r := rand.New(rand.NewSource(1))
	for range 80 {
		n := r.Intn(4) + 1
		m := family(r, n)
		f, _ := frob.Form(m)
		got, e := verify.Form(m, f)
		want(t, "Form", got, e, api.ClaimNone)
		other := f
		other.F, other.T, other.Inv = stretched(f.F), stretched(f.T), stretched(f.Inv)
		got, e = verify.Form(stretched(m), other)
		want(t, "Form of what is not normal", got, e, api.ClaimNone)
		i, k := r.Intn(n), r.Intn(n)
		other = f
		other.F = raised(f.F, i, k)
		got, e = verify.Form(m, other)
		want(t, "Form with another F", got, e, api.ClaimForm)
		other = f
		other.T = raised(f.T, i, k)
		got, e = verify.Form(m, other)
		want(t, "Form with another T", got, e, api.ClaimInverse)
		other = f
		other.Inv = raised(f.Inv, i, k)
		got, e = verify.Form(m, other)
		want(t, "Form with another Inv", got, e, api.ClaimInverse)
		got, e = verify.Form(raised(m, i, k), f)
		want(t, "Form of another matrix", got, e, api.ClaimConjugate)
		for _, bad := range []api.Mat{{}, {Num: f.T.Num}, of(1, n+1, make([]int64, (n+1)*n)...), of(1, n, make([]int64, n*n+n)...), {Den: zint.Of(1), Num: append([][]api.Int{{}}, f.T.Num...)}, of(1, 1)} {
			for part := range 3 {
				other = f
				*[]*api.Mat{&other.F, &other.T, &other.Inv}[part] = bad
				got, e = verify.Form(m, other)
				want(t, "Form with a shape that may not be", got, e, api.ClaimShape)
			}
		}
	}
}

func TestFormOrder(t *testing.T) { // P27.1: the first claim counts
	two := of(1, 2, 2, 0, 0, 2)
	id, _ := qmat.Identity(2)
	zero, _ := qmat.Zero(2, 2)
	x2, x3 := coeffs(-2, 1), coeffs(-3, 1)
	for what, c := range map[string]struct {
		f api.Form
		w api.Claim
	}{
		"all":              {api.Form{Polys: []api.Poly{x2, x2}, F: two, T: id, Inv: id}, api.ClaimNone},
		"no chain":         {api.Form{Polys: []api.Poly{x2, x3}, F: two, T: id, Inv: id}, api.ClaimChain},
		"T 0":              {api.Form{Polys: []api.Poly{x2, x2}, F: two, T: zero, Inv: id}, api.ClaimInverse},
		"no den":           {api.Form{Polys: []api.Poly{x3, {{}}}, F: two, T: id, Inv: id}, api.ClaimShape},
		"too few":          {api.Form{Polys: []api.Poly{x2}, F: zero, T: zero, Inv: id}, api.ClaimChain},
		"too many":         {api.Form{Polys: []api.Poly{x2, x2, x2}, F: zero, T: zero, Inv: id}, api.ClaimChain},
		"none":             {api.Form{F: two, T: id, Inv: id}, api.ClaimChain},
		"not monic":        {api.Form{Polys: []api.Poly{x2, coeffs(-4, 2)}, F: two, T: id, Inv: id}, api.ClaimChain},
		"a number":         {api.Form{Polys: []api.Poly{coeffs(1), x2, x2}, F: two, T: id, Inv: id}, api.ClaimChain},
		"0":                {api.Form{Polys: []api.Poly{nil, x2, x2}, F: two, T: id, Inv: id}, api.ClaimChain},
		"long":             {api.Form{Polys: []api.Poly{append(make(api.Poly, 0), append(coeffs(make([]int64, 30)...), ratio(1, 1))...)}, F: two, T: id, Inv: id}, api.ClaimChain},
		"another form":     {api.Form{Polys: []api.Poly{x3, x3}, F: two, T: id, Inv: id}, api.ClaimForm},
		"another matrix":   {api.Form{Polys: []api.Poly{x3, x3}, F: of(1, 2, 3, 0, 0, 3), T: id, Inv: id}, api.ClaimConjugate},
		"another x - 2":    {api.Form{Polys: []api.Poly{{ratio(4, -2), ratio(-3, -3), ratio(0, 5)}, x2}, F: two, T: id, Inv: id}, api.ClaimNone},
		"shape and chain":  {api.Form{Polys: []api.Poly{x2, x3}, F: id, T: of(1, 1, 1), Inv: id}, api.ClaimShape},
		"form and inverse": {api.Form{Polys: []api.Poly{x2, x2}, F: id, T: zero, Inv: id}, api.ClaimForm},
	} {
		got, e := verify.Form(two, c.f)
		want(t, "Form: "+what, got, e, c.w)
	}
}

func TestSimilar(t *testing.T) { // P27.2, P27.6
	r := rand.New(rand.NewSource(2))
	for range 80 {
		n := r.Intn(4) + 1
		a := family(r, n)
		b := conjugated(r, a, 4)
		yes, s, inv, _ := simil.Similar(a, b)
		if !yes {
			t.Fatal("Similar says no")
		}
		got, e := verify.Similar(a, b, s, inv)
		want(t, "Similar", got, e, api.ClaimNone)
		got, e = verify.Similar(stretched(a), stretched(b), stretched(s), stretched(inv))
		want(t, "Similar of what is not normal", got, e, api.ClaimNone)
		i, k := r.Intn(n), r.Intn(n)
		got, e = verify.Similar(a, b, raised(s, i, k), inv)
		want(t, "Similar with another S", got, e, api.ClaimInverse)
		got, e = verify.Similar(a, raised(b, i, k), s, inv)
		want(t, "Similar of another matrix", got, e, api.ClaimConjugate)
		for _, bad := range []api.Mat{{}, {Num: s.Num}, of(1, n+1, make([]int64, (n+1)*n)...), of(1, 1)} {
			got, e = verify.Similar(a, b, bad, inv)
			want(t, "Similar with an S that may not be", got, e, api.ClaimShape)
			got, e = verify.Similar(a, raised(b, i, k), s, bad)
			want(t, "Similar with an inverse that may not be", got, e, api.ClaimShape)
		}
	}
	id, _ := qmat.Identity(3)
	got, e := verify.Similar(id, id, id, id)
	want(t, "Similar(I, I, I, I)", got, e, api.ClaimNone)
	long := api.Mat{Den: zint.Of(1), Num: [][]api.Int{{bits(9000)}}}
	got, e = verify.Similar(of(1, 1, 1), of(1, 1, 1), long, api.Mat{Den: bits(9000), Num: [][]api.Int{{zint.Of(1)}}})
	want(t, "Similar by 2^9000", got, e, api.ClaimNone)
}

// certOf: Char's certificate in memory of its own.
func certOf(c api.Cert) api.Cert {
	out := api.Cert{D: zint.Norm(c.D), Bound: zint.Norm(c.Bound)}
	for _, x := range c.Pairs {
		out.Pairs = append(out.Pairs, api.Pair{P: x.P, C: append(api.ModPoly{}, x.C...)})
	}
	return out
}

func TestModular(t *testing.T) { // P27.3, P27.6
	r := rand.New(rand.NewSource(3))
	for range 60 {
		n := r.Intn(4) + 1
		m := family(r, n)
		for _, row := range m.Num {
			row[0] = zint.Mul(row[0], api.Int{Mag: api.Nat{1, 3}})
		}
		f, cert, _ := modroute.Char(m)
		got, e := verify.Modular(m, f, cert)
		want(t, "Modular", got, e, api.ClaimNone)
		i := r.Intn(len(cert.Pairs))
		last := len(cert.Pairs) - 1
		for what, w := range map[string]struct {
			change func(c *api.Cert)
			claim  api.Claim
		}{
			"D one more":        {func(c *api.Cert) { c.D = zint.Add(c.D, zint.Of(1)) }, api.ClaimDen},
			"D twice":           {func(c *api.Cert) { c.D = zint.Add(c.D, c.D) }, api.ClaimDen},
			"D below 0":         {func(c *api.Cert) { c.D.Neg = true }, api.ClaimDen},
			"D in another form": {func(c *api.Cert) { c.D.Mag = append(c.D.Mag, 0) }, api.ClaimNone},
			"no prime":          {func(c *api.Cert) { c.Pairs[i].P-- }, api.ClaimPrime},
			"a prime twice":     {func(c *api.Cert) { c.Pairs = append(c.Pairs, c.Pairs[i]) }, api.ClaimPrime},
			"no bound":          {func(c *api.Cert) { c.Bound = zint.Of(0) }, api.ClaimBound},
			"a bound below 0":   {func(c *api.Cert) { c.Bound.Neg = true }, api.ClaimBound},
			"a great bound":     {func(c *api.Cert) { c.Bound = zint.Mul(c.Bound, bits(64)) }, api.ClaimCount},
			"a prime less":      {func(c *api.Cert) { c.Pairs = c.Pairs[:last] }, api.ClaimCount},
			"no primes":         {func(c *api.Cert) { c.Pairs = nil }, api.ClaimCount},
			"another image":     {func(c *api.Cert) { c.Pairs[i].C[0] = (c.Pairs[i].C[0] + 1) % c.Pairs[i].P }, api.ClaimImage},
			"a word too great":  {func(c *api.Cert) { c.Pairs[i].C[n] += c.Pairs[i].P }, api.ClaimImage},
			"noughts at top":    {func(c *api.Cert) { c.Pairs[i].C = append(c.Pairs[i].C, 0) }, api.ClaimImage},
			"an image less":     {func(c *api.Cert) { c.Pairs[i].C = c.Pairs[i].C[:n] }, api.ClaimImage},
		} {
			c := certOf(cert)
			w.change(&c)
			got, e = verify.Modular(m, f, c)
			want(t, "Modular: "+what, got, e, w.claim)
		}
		g := append(api.Poly{}, f...)
		g[0] = api.Rat{Num: zint.Add(g[0].Num, g[0].Den), Den: g[0].Den}
		got, e = verify.Modular(m, g, cert)
		want(t, "Modular with another polynomial", got, e, api.ClaimLift)
		got, e = verify.Modular(m, append(f[:len(f):len(f)], ratio(0, -7)), cert)
		want(t, "Modular with noughts at the top", got, e, api.ClaimNone)
		got, e = verify.Modular(m, append(f[:len(f):len(f)], api.Rat{}), api.Cert{})
		want(t, "Modular with a denominator 0", got, e, api.ClaimShape)
		got, e = verify.Modular(m, g, api.Cert{})
		want(t, "Modular of nothing", got, e, api.ClaimDen)
	}
}

func TestModularExamples(t *testing.T) { // P27.3: the numbers at their ends
	m := api.Mat{Den: zint.Of(6), Num: of(1, 2, 3, 6, 0, 2).Num}
	f, _, _ := modroute.Char(m)
	pair := func(p uint32) api.Pair {
		l, _ := modroute.Images(m, 1, p)
		return l[0]
	}
	for what, c := range map[string]struct {
		c api.Cert
		w api.Claim
	}{
		"13":             {api.Cert{D: zint.Of(6), Bound: zint.Of(6), Pairs: []api.Pair{pair(13)}}, api.ClaimNone},
		"11":             {api.Cert{D: zint.Of(6), Bound: zint.Of(6), Pairs: []api.Pair{pair(11)}}, api.ClaimCount},
		"13, 17":         {api.Cert{D: zint.Of(6), Bound: zint.Of(6), Pairs: []api.Pair{pair(13), pair(17)}}, api.ClaimCount},
		"7, 5":           {api.Cert{D: zint.Of(6), Bound: zint.Of(6), Pairs: []api.Pair{pair(7), pair(5)}}, api.ClaimNone},
		"5, 7, bound 17": {api.Cert{D: zint.Of(6), Bound: zint.Of(17), Pairs: []api.Pair{pair(5), pair(7)}}, api.ClaimNone},
		"bound 5":        {api.Cert{D: zint.Of(6), Bound: zint.Of(5), Pairs: []api.Pair{pair(13)}}, api.ClaimBound},
		"a divisor of D": {api.Cert{D: zint.Of(6), Bound: zint.Of(6), Pairs: []api.Pair{pair(5), pair(3)}}, api.ClaimPrime},
		"no prime":       {api.Cert{D: zint.Of(6), Bound: zint.Of(6), Pairs: []api.Pair{{P: 25, C: api.ModPoly{6, 20, 1}}}}, api.ClaimPrime},
	} {
		got, e := verify.Modular(m, f, c.c)
		want(t, "Modular with "+what, got, e, c.w)
	}
}

func TestBasis(t *testing.T) { // P27.4, P27.6
	r := rand.New(rand.NewSource(4))
	for range 80 {
		n := r.Intn(4) + 1
		m := family(r, n)
		l, _ := commute.Basis(m)
		got, e := verify.Basis(m, l...)
		want(t, "Basis", got, e, api.ClaimNone)
		got, e = verify.Basis(m, l[1:]...)
		want(t, "Basis without one", got, e, api.ClaimDim)
		got, e = verify.Basis(m, append(l[:len(l):len(l)], l[0])...)
		want(t, "Basis with one twice", got, e, api.ClaimIndependent)
		zero, _ := qmat.Zero(n, n)
		sum, _ := qmat.Add(l[0], l[len(l)-1])
		got, e = verify.Basis(m, append(l[1:len(l):len(l)], zero)...)
		want(t, "Basis with 0", got, e, api.ClaimIndependent)
		other := append([]api.Mat{stretched(sum)}, l[1:]...)
		got, e = verify.Basis(m, other...)
		want(t, "another Basis", got, e, api.ClaimNone)
		x := raised(l[0], r.Intn(n), r.Intn(n))
		w := api.ClaimCommute
		if is, _ := commute.Does(m, x); is {
			continue
		}
		got, e = verify.Basis(m, append(l[1:len(l):len(l)], x, x)...)
		want(t, "Basis with what does not commute", got, e, w)
		for _, bad := range []api.Mat{{}, {Num: m.Num}, of(1, n+1, make([]int64, (n+1)*n)...), of(1, 1)} {
			got, e = verify.Basis(m, x, bad)
			want(t, "Basis with what may not be", got, e, api.ClaimShape)
		}
	}
	id, _ := qmat.Identity(2)
	got, e := verify.Basis(id)
	want(t, "Basis of none", got, e, api.ClaimDim)
	many := make([]api.Mat, 600)
	for i := range many {
		many[i] = id
	}
	got, e = verify.Basis(id, many...)
	want(t, "Basis of many", got, e, api.ClaimIndependent)
	// independent, but not modulo the greatest prime below 2^32
	p := int64(4294967291)
	got, e = verify.Basis(id, of(1, 2, 1, 0, 0, 0), of(1, 2, 1, p, 0, 0), of(1, 2, 0, 0, 1, 0), of(1, 2, 0, 0, 0, 1))
	want(t, "Basis with p", got, e, api.ClaimNone)
}

func TestLarge(t *testing.T) { // 24 rows
	r := rand.New(rand.NewSource(5))
	l := make([]int64, 24*24)
	for i := range l {
		l[i] = int64(r.Intn(9) - 4)
	}
	m := of(1, 24, l...)
	f, _ := frob.Form(m)
	got, e := verify.Form(m, f)
	want(t, "Form of 24 rows", got, e, api.ClaimNone)
	p, c, _ := modroute.Char(m)
	got, e = verify.Modular(m, p, c)
	want(t, "Modular of 24 rows", got, e, api.ClaimNone)
	basis, _ := commute.Basis(m)
	got, e = verify.Basis(m, basis...)
	want(t, "Basis of 24 rows", got, e, api.ClaimNone)
	for i := range 24 {
		for k := range 24 {
			m.Num[i][k] = api.Int{}
			if i == k {
				m.Num[i][k] = zint.Of(int64(i % 3))
			}
		}
	}
	m = conjugated(r, m, 40)
	basis, _ = commute.Basis(m)
	got, e = verify.Basis(m, basis...)
	want(t, "Basis of 24 rows with many that commute", got, e, api.ClaimNone)
}

func TestNames(t *testing.T) { // P27.5
	for i, w := range []string{"none", "shape", "chain", "form", "inverse", "conjugate", "denominator", "prime", "bound", "count", "image", "lift", "commute", "independent", "dimension"} {
		if got := verify.Name(api.Claim(i)); got != w {
			t.Errorf("Name(%d): %q", i, got)
		}
	}
	for _, c := range []api.Claim{-1, 15, math.MaxInt, math.MinInt} {
		if got := verify.Name(c); got != "" {
			t.Errorf("Name(%d): %q", c, got)
		}
	}
}

func TestFaults(t *testing.T) { // the errors, ahead of all claims
	ragged := api.Mat{Den: zint.Of(1), Num: [][]api.Int{{zint.Of(1)}, {}}}
	two := of(1, 2, 1, 2, 3, 4)
	for what, call := range map[string]func(m api.Mat) (any, api.Errno){
		"Form": func(m api.Mat) (any, api.Errno) { x, e := verify.Form(m, api.Form{}); return x, e },
		"Similar": func(m api.Mat) (any, api.Errno) {
			x, e := verify.Similar(m, api.Mat{}, api.Mat{}, api.Mat{})
			return x, e
		},
		"Similar 2": func(m api.Mat) (any, api.Errno) { x, e := verify.Similar(two, m, api.Mat{}, api.Mat{}); return x, e },
		"Modular":   func(m api.Mat) (any, api.Errno) { x, e := verify.Modular(m, api.Poly{{}}, api.Cert{}); return x, e },
		"Basis":     func(m api.Mat) (any, api.Errno) { x, e := verify.Basis(m, api.Mat{}); return x, e },
	} {
		for _, c := range []struct {
			m api.Mat
			e api.Errno
		}{
			{api.Mat{}, api.ErrDen}, {api.Mat{Num: ragged.Num}, api.ErrDen}, {ragged, api.ErrShape}, {of(1, 2, 1, 2), api.ErrNotSquare}, {of(1, 1), api.ErrNotSquare}, {of(1, 1, 1, 2), api.ErrNotSquare},
			{of(1, 25, make([]int64, 625)...), api.ErrTooBig}, {api.Mat{Den: zint.Of(1), Num: [][]api.Int{{bits(4096)}}}, api.ErrTooBig},
		} {
			x, e := call(c.m)
			fault(t, what, e, c.e, x)
		}
	}
	x, e := verify.Similar(of(1, 1, 1), two, api.Mat{}, api.Mat{})
	fault(t, "Similar", e, api.ErrShape, x)
}

func TestMemory(t *testing.T) { // R3: what is handed in stays
	r := rand.New(rand.NewSource(6))
	for range 10 {
		m := family(r, 3)
		f, _ := frob.Form(m)
		p, c, _ := modroute.Char(m)
		l, _ := commute.Basis(m)
		form, _ := companion.Sum(f.Polys...)
		given := []any{m, f, p, c, l, form}
		memory(t, "the claims", given, func() []any {
			w, _ := verify.Form(m, f)
			x, _ := verify.Similar(m, form, f.T, f.Inv)
			y, _ := verify.Modular(m, p, c)
			z, _ := verify.Basis(m, l...)
			return []any{fmt.Sprint(w, x, y, z)}
		})
	}
}
