package smith_test

import (
	"fmt"
	"math"
	"math/big"
	"math/rand"
	"testing"

	"simile/api"
	"simile/qmat"
	"simile/smith"
	"simile/zint"
)

// grid is rows of polynomials of math/big.
type grid [][]poly

func listGrid(a [][]api.Poly) grid {
	out := make(grid, len(a))
	for i, row := range a {
		for _, f := range row {
			out[i] = append(out[i], listPoly(f))
		}
	}
	return out
}

func gridTimes(a, b grid, columns int) grid {
	out := make(grid, len(a))
	for i := range a {
		for k := range columns {
			var sum poly
			for j := range b {
				sum = polyPlus(sum, polyTimes(a[i][j], b[j][k]), big.NewRat(1, 1))
			}
			out[i] = append(out[i], sum)
		}
	}
	return out
}

// gridMinor: the determinant by the first row.
func gridMinor(a grid) poly {
	if len(a) == 0 {
		return poly{big.NewRat(1, 1)}
	}
	var sum poly
	for c, f := range a[0] {
		var rest grid
		for _, row := range a[1:] {
			rest = append(rest, append(append([]poly{}, row[:c]...), row[c+1:]...))
		}
		sum = polyPlus(sum, polyTimes(f, gridMinor(rest)), big.NewRat(int64(1-2*(c%2)), 1))
	}
	return sum
}

// choices: all lists of k of n places.
func choices(n, k int) [][]int {
	if k == 0 {
		return [][]int{nil}
	}
	var out [][]int
	for last := k - 1; last < n; last++ {
		for _, l := range choices(last, k-1) {
			out = append(out, append(append([]int{}, l...), last))
		}
	}
	return out
}

func common(a, b poly) poly {
	for len(b) > 0 {
		a, b = b, polyRest(a, b)
	}
	return monic(a)
}

func monic(a poly) poly {
	if len(a) == 0 {
		return nil
	}
	return polyTimes(a, poly{new(big.Rat).Inv(a[len(a)-1])})
}

// divisors: d1, d2, .. by all minors.
func divisors(a grid, columns int) []poly {
	var out []poly
	for k := 1; k <= min(len(a), columns); k++ {
		var d poly
		for _, rows := range choices(len(a), k) {
			for _, cols := range choices(columns, k) {
				part := make(grid, k)
				for i, r := range rows {
					for _, c := range cols {
						part[i] = append(part[i], a[r][c])
					}
				}
				d = common(d, gridMinor(part))
			}
		}
		if len(d) == 0 {
			break
		}
		out = append(out, d)
	}
	return out
}

func over(a, b poly) poly {
	var q poly
	for len(a) >= len(b) {
		digit := make(poly, len(a)-len(b)+1)
		for i := range digit {
			digit[i] = new(big.Rat)
		}
		digit[len(digit)-1] = new(big.Rat).Quo(a[len(a)-1], b[len(b)-1])
		q = polyPlus(q, digit, big.NewRat(1, 1))
		a = polyPlus(a, polyTimes(digit, b), big.NewRat(-1, 1))
	}
	return q
}

func wantGrid(t *testing.T, what string, got [][]api.Poly, e api.Errno, w grid) {
	t.Helper()
	if len(got) != len(w) || e != api.OK {
		t.Errorf("%s: %v, %d, want %v", what, got, e, w)
		return
	}
	for i := range w {
		wantPolys(t, what, got[i], e, w[i])
	}
}

func wantPolys(t *testing.T, what string, got []api.Poly, e api.Errno, w []poly) {
	t.Helper()
	if len(got) != len(w) || e != api.OK {
		t.Errorf("%s: %v, %d, want %v", what, got, e, w)
		return
	}
	for k := range w {
		wantPoly(t, what, got[k], e, w[k])
	}
}

// someGrid tells a matrix of polynomials, in any form, often of a low rank or with common factors.
func someGrid(r *rand.Rand, n, c, most int) [][]api.Poly {
	out := make([][]api.Poly, n)
	kind := r.Intn(4)
	factor := listPoly(coeffs(int64(r.Intn(3)), 1))
	for i := range out {
		out[i] = make([]api.Poly, c)
		for k := range out[i] {
			f := somePoly(r, most)
			if kind == 0 {
				f = told(polyTimes(listPoly(f), factor))
			}
			if r.Intn(3) == 0 {
				f = append(f, ratio(0, -3))
			}
			out[i][k] = f
		}
		if kind == 1 && i > 0 && r.Intn(2) == 0 {
			for k := range out[i] {
				out[i][k] = told(polyTimes(listPoly(out[0][k]), factor))
			}
		}
	}
	return out
}

// told: a polynomial of small numbers as it is here.
func told(f poly) api.Poly {
	var out api.Poly
	for _, c := range f {
		out = append(out, ratio(c.Num().Int64(), c.Denom().Int64()))
	}
	return out
}

// unimodular tells a matrix of determinant 1, and its inverse.
func unimodular(r *rand.Rand, n int) (grid, grid) {
	a, b := listGrid(unitGrid(n)), listGrid(unitGrid(n))
	for range 2 * n {
		i, k := r.Intn(n), r.Intn(n)
		if i == k {
			continue
		}
		step, back := listGrid(unitGrid(n)), listGrid(unitGrid(n))
		step[i][k] = listPoly(coeffs(int64(r.Intn(3)-1), int64(r.Intn(2))))
		back[i][k] = polyTimes(step[i][k], poly{big.NewRat(-1, 1)})
		a, b = gridTimes(a, step, n), gridTimes(back, b, n)
	}
	return a, b
}

func unitGrid(n int) [][]api.Poly {
	out := make([][]api.Poly, n)
	for i := range out {
		out[i] = make([]api.Poly, n)
		out[i][i] = coeffs(1)
	}
	return out
}

func toldGrid(a grid) [][]api.Poly {
	out := make([][]api.Poly, len(a))
	for i, row := range a {
		for _, f := range row {
			out[i] = append(out[i], told(f))
		}
	}
	return out
}

// checkForm holds a Form against what it promises, with those Smith polynomials.
func checkForm(t *testing.T, a [][]api.Poly, columns int, s api.Smith, w []poly) {
	t.Helper()
	d := make(grid, len(a))
	for i := range d {
		d[i] = make([]poly, columns)
		if i < len(w) {
			d[i][i] = w[i]
		}
	}
	wantGrid(t, "Form's D", s.D, api.OK, d)
	if len(s.U) != len(a) || len(s.V) != columns {
		t.Fatalf("Form of %d times %d: U of %d, V of %d rows", len(a), columns, len(s.U), len(s.V))
	}
	u, v := listGrid(s.U), listGrid(s.V)
	wantGrid(t, "U", s.U, api.OK, u)
	wantGrid(t, "V", s.V, api.OK, v)
	if fmt.Sprint(gridTimes(gridTimes(u, listGrid(a), columns), v, columns)) != fmt.Sprint(d) {
		t.Errorf("Form(%v): U a V is not D", a)
	}
	if len(a) < 5 && len(gridMinor(u)) != 1 || columns < 5 && len(gridMinor(v)) != 1 {
		t.Errorf("Form(%v): U %v, V %v", a, u, v)
	}
}

func TestForms(t *testing.T) { // P18.3, P18.4, P18.5, P18.8
	r := rand.New(rand.NewSource(1))
	for range 150 {
		n, c := r.Intn(3)+1, r.Intn(3)+1
		a := someGrid(r, n, c, 3)
		l := listGrid(a)
		d := divisors(l, c)
		var w []poly
		for k, f := range d {
			if k > 0 {
				f = over(f, d[k-1])
			}
			w = append(w, f)
		}
		got, e := smith.Divisors(a)
		wantPolys(t, "Divisors", got, e, d)
		got, e = smith.Diagonal(a)
		wantPolys(t, "Diagonal", got, e, w)
		if rank, e := smith.Rank(a); rank != len(d) || e != api.OK {
			t.Errorf("Rank(%v): %d", l, rank)
		}
		s, e := smith.Form(a)
		if e != api.OK {
			t.Fatalf("Form: %d", e)
		}
		checkForm(t, a, c, s, w)
		if n == c {
			det, e := smith.Det(a)
			wantPoly(t, "Det", det, e, gridMinor(l))
			is, e := smith.Unimodular(a)
			if is != (len(det) == 1) || e != api.OK {
				t.Errorf("Unimodular(%v): %t", l, is)
			}
		}
	}
}

func TestEquivalence(t *testing.T) { // P18.7, P18.9
	r := rand.New(rand.NewSource(2))
	for range 60 {
		n, c := r.Intn(3)+1, r.Intn(3)+1
		a := someGrid(r, n, c, 2)
		for i := range a {
			for k := range a[i] {
				for j := range a[i][k] {
					a[i][k][j].Den = zint.Of(1)
				}
			}
		}
		u, back := unimodular(r, n)
		v, _ := unimodular(r, c)
		b := toldGrid(gridTimes(gridTimes(u, listGrid(a), c), v, c))
		if is, e := smith.Equivalent(a, b); !is || e != api.OK {
			t.Errorf("Equivalent(%v, U a V): %t, %d", listGrid(a), is, e)
		}
		x, _ := smith.Diagonal(a)
		y, e := smith.Diagonal(b)
		var w []poly
		for _, f := range x {
			w = append(w, listPoly(f))
		}
		wantPolys(t, "Diagonal of U a V", y, e, w)
		other := someGrid(r, n, c, 2)
		z, _ := smith.Diagonal(other)
		if is, e := smith.Equivalent(a, other); is != (fmt.Sprint(x) == fmt.Sprint(z)) || e != api.OK {
			t.Errorf("Equivalent(%v, %v): %t", listGrid(a), listGrid(other), is)
		}
		inverse, e := smith.Inverse(toldGrid(u))
		wantGrid(t, "Inverse", inverse, e, back)
		if is, e := smith.Unimodular(toldGrid(u)); !is || e != api.OK {
			t.Errorf("Unimodular(%v): %t", u, is)
		}
	}
	for _, pair := range [][2][][]api.Poly{{nil, unitGrid(1)}, {unitGrid(1), unitGrid(2)}, {{{coeffs(1), nil}}, {{coeffs(1)}, {nil}}}, {{{}}, nil}, {{{}}, {{}, {}}}} {
		if is, e := smith.Equivalent(pair[0], pair[1]); is || e != api.OK {
			t.Errorf("Equivalent of unlike sizes: %t, %d", is, e)
		}
	}
	if is, e := smith.Equivalent([][]api.Poly{{}, {}}, [][]api.Poly{{}, {}}); !is || e != api.OK {
		t.Errorf("Equivalent of rows of nothing: %t, %d", is, e)
	}
}

func TestReckoning(t *testing.T) { // P18.2
	r := rand.New(rand.NewSource(3))
	for range 100 {
		n, k, c := r.Intn(4)+1, r.Intn(4)+1, r.Intn(4)+1
		a, b := someGrid(r, n, k, 3), someGrid(r, k, c, 3)
		got, e := smith.Mul(a, b)
		wantGrid(t, "Mul", got, e, gridTimes(listGrid(a), listGrid(b), c))
		if same, e := smith.Equal(a, toldGrid(listGrid(a))); !same || e != api.OK {
			t.Errorf("Equal(%v, itself)", listGrid(a))
		}
		x := api.Rat{Num: someInt(r), Den: someDen(r)}
		m, e := smith.Scalar(a, x)
		w := make(table, n)
		for i := range a {
			for _, f := range listGrid(a)[i] {
				y := new(big.Rat)
				for j := len(f) - 1; j >= 0; j-- {
					y.Add(y.Mul(y, broken(x.Num, x.Den)), f[j])
				}
				w[i] = append(w[i], y)
			}
		}
		wantMat(t, "Scalar", m, e, w)
	}
	for n, w := range map[int]api.Errno{-1: api.ErrArg, 25: api.ErrArg, math.MinInt: api.ErrArg, math.MaxInt: api.ErrArg, 0: api.OK, 24: api.OK, 3: api.OK} {
		got, e := smith.Identity(n)
		if w != api.OK {
			fault(t, "Identity", e, w, got)
			continue
		}
		wantGrid(t, "Identity", got, e, listGrid(unitGrid(n)))
	}
	one, two := unitGrid(1), unitGrid(2)
	for _, pair := range [][2][][]api.Poly{{one, two}, {one, nil}, {one, {{}}}, {{{coeffs(1), nil}}, {{coeffs(1)}}}} {
		if same, e := smith.Equal(pair[0], pair[1]); same || e != api.OK {
			t.Errorf("Equal(%v, %v): %t, %d", pair[0], pair[1], same, e)
		}
	}
	if same, _ := smith.Equal(two, [][]api.Poly{{coeffs(1), coeffs(0, 0)}, {nil, coeffs(1, 1)}}); same {
		t.Error("Equal of unlike polynomials")
	}
	got, e := smith.Mul(two, one)
	fault(t, "Mul", e, api.ErrShape, got)
	got, e = smith.Mul(nil, one)
	fault(t, "Mul", e, api.ErrShape, got)
	got, e = smith.Mul([][]api.Poly{{}, {}}, nil)
	wantGrid(t, "Mul of rows of nothing", got, e, make(grid, 2))
	got, e = smith.Mul(nil, nil)
	wantGrid(t, "Mul of nothing", got, e, nil)
}

func TestChar(t *testing.T) { // P18.1, P18.6, P18.10
	r := rand.New(rand.NewSource(4))
	for range 80 {
		n := r.Intn(4) + 1
		m := some(r, n, n)
		if r.Intn(2) == 0 {
			for i := range n {
				for k := range n {
					if i != k && r.Intn(3) > 0 {
						m.Num[i][k] = api.Int{}
					}
				}
				m.Num[i][i] = m.Num[r.Intn(i+1)][0]
			}
		}
		a, e := smith.Char(m)
		w := make(grid, n)
		for i := range w {
			for k := range n {
				f := poly{new(big.Rat).Neg(list(m)[i][k])}
				if i == k {
					f = append(f, big.NewRat(1, 1))
				}
				w[i] = append(w[i], trimmed(f))
			}
		}
		wantGrid(t, "Char", a, e, w)
		factors, e := smith.Factors(m)
		product := poly{big.NewRat(1, 1)}
		for i, f := range factors {
			x := listPoly(f)
			product = polyTimes(product, x)
			if wantPoly(t, "Factors", f, e, x); len(x) < 2 || i > 0 && len(polyRest(x, listPoly(factors[i-1]))) > 0 {
				t.Errorf("Factors(%v): %v", m, factors)
			}
		}
		det, e := smith.Det(a)
		wantPoly(t, "the product of Factors", det, e, product)
		wantPoly(t, "Det of Char", det, e, charOf(list(m)))
		wantPoly(t, "the last one of Factors", factors[len(factors)-1], e, minimalOf(list(m)))
		turn, _ := qmat.Transpose(m)
		other, e := smith.Factors(turn)
		var l []poly
		for _, f := range factors {
			l = append(l, listPoly(f))
		}
		wantPolys(t, "Factors of the transpose", other, e, l)
	}
}

func TestLarge(t *testing.T) { // P18.5, P18.6: of many rows, with one invariant factor and with several
	r := rand.New(rand.NewSource(5))
	for _, n := range []int{7, 8, 10} {
		for kind := range 4 {
			m := api.Mat{Den: zint.Of(1)}
			for i := range n {
				row := make([]api.Int, n)
				for k := range row {
					if kind == 0 || kind == 1 && i/(n/2) == k/(n/2) || kind == 3 && (k+1 < n && i == k+1 || k == n-1) {
						row[k] = zint.Of(int64(r.Intn(7) - 3))
					}
				}
				if kind == 2 {
					row[i] = zint.Of(int64(i % 3))
				}
				m.Num = append(m.Num, row)
			}
			if kind == 1 {
				for i := range n / 2 {
					copy(m.Num[n/2+i][n/2:], m.Num[i][:n/2])
				}
			}
			factors, e := smith.Factors(m)
			product := poly{big.NewRat(1, 1)}
			for i, f := range factors {
				product = polyTimes(product, listPoly(f))
				if i > 0 && len(polyRest(listPoly(f), listPoly(factors[i-1]))) > 0 {
					t.Errorf("Factors of %d rows: %v", n, factors)
				}
			}
			if fmt.Sprint(product) != fmt.Sprint(charOf(list(m))) || fmt.Sprint(listPoly(factors[len(factors)-1])) != fmt.Sprint(minimalOf(list(m))) || e != api.OK {
				t.Errorf("Factors of %d rows: %v", n, factors)
			}
			a, _ := smith.Char(m)
			s, e := smith.Form(a)
			var w []poly
			for range n - len(factors) {
				w = append(w, listPoly(coeffs(1)))
			}
			for _, f := range factors {
				w = append(w, listPoly(f))
			}
			if checkForm(t, a, n, s, w); e != api.OK {
				t.Errorf("Form of %d rows: %d", n, e)
			}
			u, e := smith.Unimodular(s.U)
			v, e2 := smith.Unimodular(s.V)
			if !u || !v || e != api.OK || e2 != api.OK {
				t.Errorf("Form of %d rows: U %t, V %t", n, u, v)
			}
		}
		a, back := unimodular(r, n)
		got, e := smith.Inverse(toldGrid(a))
		wantGrid(t, "Inverse of many rows", got, e, back)
		s, e := smith.Form(toldGrid(a))
		var w []poly
		for range n {
			w = append(w, listPoly(coeffs(1)))
		}
		if checkForm(t, toldGrid(a), n, s, w); e != api.OK {
			t.Errorf("Form of %d rows: %d", n, e)
		}
	}
	flat := someGrid(r, 8, 8, 1)
	flat[3], flat[5] = flat[0], make([]api.Poly, 8)
	s, e := smith.Form(flat)
	rank, _ := smith.Rank(flat)
	diagonal, _ := smith.Diagonal(flat)
	if e != api.OK || rank > 6 || len(diagonal) != rank {
		t.Fatalf("Form of low rank: %d, %d", rank, len(diagonal))
	}
	var w []poly
	for _, f := range diagonal {
		w = append(w, listPoly(f))
	}
	checkForm(t, flat, 8, s, w)
}

func TestExamples(t *testing.T) {
	a, e := smith.Char(of(1, 2, 1, 2, 3, 4))
	wantGrid(t, "Char", a, e, listGrid([][]api.Poly{{coeffs(-1, 1), coeffs(-2)}, {coeffs(-3), coeffs(-4, 1)}}))
	f, e := smith.Det(a)
	wantPoly(t, "Det", f, e, listPoly(coeffs(-2, -5, 1)))
	l, e := smith.Diagonal(a)
	wantPolys(t, "Diagonal", l, e, []poly{listPoly(coeffs(1)), listPoly(coeffs(-2, -5, 1))})
	l, e = smith.Factors(of(1, 2, 2, 0, 0, 2))
	wantPolys(t, "Factors", l, e, []poly{listPoly(coeffs(-2, 1)), listPoly(coeffs(-2, 1))})
	l, e = smith.Factors(of(1, 2, 2, 0, 0, 3))
	wantPolys(t, "Factors", l, e, []poly{listPoly(coeffs(6, -5, 1))})
	l, e = smith.Diagonal([][]api.Poly{{coeffs(0, 1), nil}, {nil, coeffs(1, 1)}})
	wantPolys(t, "Diagonal", l, e, []poly{listPoly(coeffs(1)), listPoly(coeffs(0, 1, 1))})
	l, e = smith.Divisors([][]api.Poly{{coeffs(0, 2)}})
	wantPolys(t, "Divisors", l, e, []poly{listPoly(coeffs(0, 1))})
	x := coeffs(0, 1)
	if rank, _ := smith.Rank([][]api.Poly{{x, x}, {x, x}}); rank != 1 {
		t.Errorf("Rank: %d", rank)
	}
	if is, _ := smith.Unimodular([][]api.Poly{{coeffs(1), x}, {nil, coeffs(2)}}); !is {
		t.Error("Unimodular")
	}
	got, e := smith.Inverse([][]api.Poly{{coeffs(1), x}, {nil, coeffs(1)}})
	wantGrid(t, "Inverse", got, e, listGrid([][]api.Poly{{coeffs(1), coeffs(0, -1)}, {nil, coeffs(1)}}))
	for _, a := range [][][]api.Poly{{{x}}, {{nil}}, {{x, x}, {x, x}}} {
		got, e = smith.Inverse(a)
		fault(t, "Inverse", e, api.ErrSingular, got)
	}
	s, e := smith.Form(nil)
	if len(s.U)+len(s.D)+len(s.V) > 0 || e != api.OK {
		t.Errorf("Form of no rows: %v", s)
	}
	s, e = smith.Form([][]api.Poly{{}, {}})
	if checkForm(t, [][]api.Poly{{}, {}}, 0, s, nil); e != api.OK {
		t.Errorf("Form of rows of nothing: %d", e)
	}
	for _, a := range [][][]api.Poly{nil, {{}, {}}, {{nil, nil}}} {
		rank, e := smith.Rank(a)
		l, e2 := smith.Diagonal(a)
		d, e3 := smith.Divisors(a)
		fault(t, "Rank, Diagonal, Divisors of 0", max(e, e2, e3), api.OK, rank, l, d)
	}
	m, e := smith.Scalar([][]api.Poly{{}, {}}, ratio(1, 1))
	wantMat(t, "Scalar of rows of nothing", m, e, make(table, 2))
}

func TestFaults(t *testing.T) { // the faults of the arguments from the left
	long := make(api.Poly, 102)
	for i := range long {
		long[i] = ratio(0, 5)
	}
	long[101] = ratio(1, 1)
	noDen := api.Poly{ratio(1, 0)}
	wide := make([]api.Poly, 25)
	bad := []struct {
		a [][]api.Poly
		e api.Errno
	}{
		{[][]api.Poly{{long}, {nil, noDen}}, api.ErrDen}, {[][]api.Poly{{append(long[:102:102], ratio(0, 0))}}, api.ErrDen}, {[][]api.Poly{{long}, {}}, api.ErrShape}, {[][]api.Poly{wide, {nil}}, api.ErrShape}, {[][]api.Poly{{}, {nil}}, api.ErrShape},
		{[][]api.Poly{{long}}, api.ErrTooBig}, {[][]api.Poly{wide}, api.ErrTooBig}, {make([][]api.Poly, 25), api.ErrTooBig}, {[][]api.Poly{{nil, {{Num: bits(4096), Den: zint.Of(1)}}}}, api.ErrTooBig}, {[][]api.Poly{{{{Num: zint.Of(1), Den: bits(4096)}}}}, api.ErrTooBig},
	}
	good := unitGrid(2)
	type call = func(a [][]api.Poly) (any, api.Errno)
	for what, f := range map[string]call{
		"Mul":          func(a [][]api.Poly) (any, api.Errno) { x, e := smith.Mul(a, [][]api.Poly{{noDen}}); return x, e },
		"Mul 2":        func(a [][]api.Poly) (any, api.Errno) { x, e := smith.Mul(good, a); return x, e },
		"Equal":        func(a [][]api.Poly) (any, api.Errno) { x, e := smith.Equal(a, [][]api.Poly{{noDen}}); return x, e },
		"Equal 2":      func(a [][]api.Poly) (any, api.Errno) { x, e := smith.Equal(good, a); return x, e },
		"Scalar":       func(a [][]api.Poly) (any, api.Errno) { x, e := smith.Scalar(a, api.Rat{}); return x, e },
		"Det":          func(a [][]api.Poly) (any, api.Errno) { x, e := smith.Det(a); return x, e },
		"Rank":         func(a [][]api.Poly) (any, api.Errno) { x, e := smith.Rank(a); return x, e },
		"Divisors":     func(a [][]api.Poly) (any, api.Errno) { x, e := smith.Divisors(a); return x, e },
		"Diagonal":     func(a [][]api.Poly) (any, api.Errno) { x, e := smith.Diagonal(a); return x, e },
		"Form":         func(a [][]api.Poly) (any, api.Errno) { x, e := smith.Form(a); return x, e },
		"Unimodular":   func(a [][]api.Poly) (any, api.Errno) { x, e := smith.Unimodular(a); return x, e },
		"Inverse":      func(a [][]api.Poly) (any, api.Errno) { x, e := smith.Inverse(a); return x, e },
		"Equivalent":   func(a [][]api.Poly) (any, api.Errno) { x, e := smith.Equivalent(a, [][]api.Poly{{noDen}}); return x, e },
		"Equivalent 2": func(a [][]api.Poly) (any, api.Errno) { x, e := smith.Equivalent(good, a); return x, e },
	} {
		for k, c := range bad {
			x, e := f(c.a)
			fault(t, fmt.Sprint(what, " of ", k), e, c.e, x)
		}
	}
	for what, f := range map[string]call{
		"Det":        func(a [][]api.Poly) (any, api.Errno) { x, e := smith.Det(a); return x, e },
		"Unimodular": func(a [][]api.Poly) (any, api.Errno) { x, e := smith.Unimodular(a); return x, e },
		"Inverse":    func(a [][]api.Poly) (any, api.Errno) { x, e := smith.Inverse(a); return x, e },
	} {
		for _, a := range [][][]api.Poly{nil, {{}}, {{nil, nil}}, {{nil}, {nil}}} {
			x, e := f(a)
			fault(t, what, e, api.ErrNotSquare, x)
		}
	}
	x, e := smith.Scalar(good, api.Rat{Num: zint.Of(1)})
	fault(t, "Scalar", e, api.ErrDen, x)
	ragged := api.Mat{Den: zint.Of(1), Num: [][]api.Int{{zint.Of(1)}, {}}}
	for _, c := range []struct {
		m api.Mat
		e api.Errno
	}{
		{api.Mat{}, api.ErrDen}, {api.Mat{Num: ragged.Num}, api.ErrDen}, {ragged, api.ErrShape}, {of(1, 2, 1, 2), api.ErrNotSquare}, {of(1, 1), api.ErrNotSquare},
		{of(1, 25, make([]int64, 625)...), api.ErrTooBig}, {api.Mat{Den: zint.Of(1), Num: [][]api.Int{{bits(4096)}}}, api.ErrTooBig},
	} {
		a, e := smith.Char(c.m)
		fault(t, "Char", e, c.e, a)
		l, e := smith.Factors(c.m)
		fault(t, "Factors", e, c.e, l)
	}
	long[101], long[100] = ratio(0, 1), ratio(2, 1)
	s, e := smith.Form([][]api.Poly{{long, {{Num: bits(4095), Den: zint.Of(1)}}}})
	if checkForm(t, [][]api.Poly{{long, {{Num: bits(4095), Den: zint.Of(1)}}}}, 2, s, []poly{listPoly(coeffs(1))}); e != api.OK {
		t.Errorf("Form of what just fits: %d", e)
	}
}

func TestMemory(t *testing.T) { // R3
	r := rand.New(rand.NewSource(6))
	for k := range 12 {
		n := 3
		if k == 0 {
			n = 8
		}
		a, b, m := someGrid(r, n, n, 2), someGrid(r, n, n, 2), some(r, n, n)
		if n == 8 {
			a, _ = smith.Char(m)
		}
		u, _ := unimodular(r, 3)
		one := toldGrid(u)
		given := []any{a, b, m, one}
		for what, call := range map[string]func() []any{
			"Char":     func() []any { x, _ := smith.Char(m); return []any{x} },
			"Identity": func() []any { x, _ := smith.Identity(3); return []any{x} },
			"Mul":      func() []any { x, _ := smith.Mul(a, b); same, _ := smith.Equal(a, b); return []any{x, same} },
			"Scalar":   func() []any { x, _ := smith.Scalar(a, ratio(0, 1)); return []any{x} },
			"Det": func() []any {
				x, _ := smith.Det(a)
				y, _ := smith.Rank(a)
				z, _ := smith.Unimodular(a)
				return []any{x, y, z}
			},
			"Divisors": func() []any { x, _ := smith.Divisors(a); return []any{x} },
			"Diagonal": func() []any { x, _ := smith.Diagonal(a); return []any{x} },
			"Form":     func() []any { x, _ := smith.Form(a); return []any{x} },
			"Factors":  func() []any { x, _ := smith.Factors(m); return []any{x} },
			"Inverse":  func() []any { x, _ := smith.Inverse(one); y, _ := smith.Equivalent(a, b); return []any{x, y} },
		} {
			memory(t, what, given, call)
		}
	}
}
