package bound_test

import (
	"fmt"
	"math"
	"math/big"
	"math/rand"
	"slices"
	"testing"

	"simile/api"
	"simile/bareiss"
	"simile/bound"
	"simile/charfree"
	"simile/zint"
)

// integer: one of math/big as it is here.
func integer(x *big.Int) api.Int {
	out := api.Int{Neg: x.Sign() < 0}
	for rest := new(big.Int).Abs(x); rest.Sign() > 0; rest.Rsh(rest, 32) {
		out.Mag = append(out.Mag, uint32(new(big.Int).And(rest, big.NewInt(0xffffffff)).Uint64()))
	}
	return out
}

func wantInt(t *testing.T, what string, got api.Int, e api.Errno, w *big.Int) {
	t.Helper()
	if e != api.OK || large(got).Cmp(w) != 0 || !normalInt(got) {
		t.Errorf("%s: %v, %d, want %v", what, got, e, w)
	}
}

func wantInts(t *testing.T, what string, got []api.Int, e api.Errno, w []*big.Int) {
	t.Helper()
	if len(got) != len(w) {
		t.Errorf("%s: %v, %d, want %v", what, got, e, w)
		return
	}
	for i := range w {
		wantInt(t, what, got[i], e, w[i])
	}
}

func TestIntegral(t *testing.T) { // P22.1, P22.7
	r := rand.New(rand.NewSource(1))
	for range 150 {
		n := r.Intn(5) + 1
		m := some(r, n, n)
		d, rows, e := bound.Integral(m)
		lcm := big.NewInt(1)
		for _, row := range list(m) {
			for _, x := range row {
				g := new(big.Int).GCD(nil, nil, lcm, x.Denom())
				lcm.Mul(lcm, new(big.Int).Div(x.Denom(), g))
			}
		}
		wantInt(t, fmt.Sprint("Integral ", m), d, e, lcm)
		most := new(big.Rat)
		for i, row := range list(m) {
			var w []*big.Int
			sum := new(big.Rat)
			for _, x := range row {
				w = append(w, new(big.Rat).Mul(x, new(big.Rat).SetInt(lcm)).Num())
				sum.Add(sum, new(big.Rat).Abs(x))
			}
			wantInts(t, "Integral's rows", rows[i], e, w)
			if sum.Cmp(most) > 0 {
				most = sum
			}
		}
		radius, e := bound.Radius(m)
		wantRat(t, "Radius", radius, e, most)
	}
	d, rows, e := bound.Integral(of(-6, 2, 0, 0, 0, 0))
	if wantInt(t, "Integral of 0", d, e, big.NewInt(1)); len(rows) != 2 {
		t.Errorf("Integral of 0: %v", rows)
	}
}

func TestBounds(t *testing.T) { // P22.2, P22.3, P22.4, P22.8, P22.10
	r := rand.New(rand.NewSource(2))
	for range 150 {
		n := r.Intn(5) + 1
		m := some(r, n, n)
		m.Den = zint.Of(1)
		var sums []*big.Int
		product := big.NewInt(1)
		for _, row := range m.Num {
			sum, squares := new(big.Int), new(big.Int)
			for _, x := range row {
				sum.Add(sum, new(big.Int).Abs(large(x)))
				squares.Add(squares, new(big.Int).Mul(large(x), large(x)))
			}
			sums = append(sums, sum)
			product.Mul(product, squares)
		}
		got, e := bound.Sums(m.Num)
		wantInts(t, "Sums", got, e, sums)
		all := make([]*big.Int, n+1)
		most := new(big.Int)
		for k := range all {
			all[k] = new(big.Int)
		}
		for set := range 1 << n {
			term, k := big.NewInt(1), 0
			for i := range n {
				if set>>i&1 == 1 {
					term.Mul(term, sums[i])
					k++
				}
			}
			all[k].Add(all[k], term)
		}
		for _, x := range all {
			if x.Cmp(most) > 0 {
				most = x
			}
		}
		got, e = bound.Coeffs(m.Num)
		wantInts(t, "Coeffs", got, e, all)
		b, e := bound.Bound(m.Num)
		wantInt(t, "Bound", b, e, most)
		h, e := bound.Hadamard(m.Num)
		root := new(big.Int).Sqrt(product)
		if new(big.Int).Mul(root, root).Cmp(product) < 0 {
			root.Add(root, big.NewInt(1))
		}
		wantInt(t, "Hadamard", h, e, root)
		char, _ := charfree.Berkowitz(m)
		for i, c := range char {
			if large(c.Num).CmpAbs(all[n-i]) > 0 || large(c.Num).CmpAbs(most) > 0 {
				t.Errorf("the coefficients of %v: %v", m, char)
			}
		}
		det, _ := bareiss.Det(m)
		if large(det.Num).CmpAbs(root) > 0 {
			t.Errorf("Hadamard(%v): %v, the determinant is %v", m, root, det)
		}
		i, k := r.Intn(n), r.Intn(n)
		m.Num[i][k].Mag = api.Nat{uint32(new(big.Int).Abs(large(m.Num[i][k])).Uint64()) + 1}
		if more, _ := bound.Bound(m.Num); zint.Cmp(more, b) < 0 {
			t.Errorf("Bound falls from %v to %v", b, more)
		}
	}
}

func TestExamples(t *testing.T) {
	d, rows, e := bound.Integral(api.Mat{Den: zint.Of(6), Num: [][]api.Int{{zint.Of(3), zint.Of(6)}, {zint.Of(2), {}}}})
	if wantInt(t, "Integral", d, e, big.NewInt(6)); fmt.Sprint(list(api.Mat{Den: zint.Of(1), Num: rows})) != "[[3/1 6/1] [2/1 0/1]]" {
		t.Errorf("Integral: %v", rows)
	}
	m := of(1, 2, 1, -2, 3, 4).Num
	l, e := bound.Sums(m)
	wantInts(t, "Sums", l, e, []*big.Int{big.NewInt(3), big.NewInt(7)})
	l, e = bound.Coeffs(m)
	wantInts(t, "Coeffs", l, e, []*big.Int{big.NewInt(1), big.NewInt(10), big.NewInt(21)})
	b, e := bound.Bound(m)
	wantInt(t, "Bound", b, e, big.NewInt(21))
	b, e = bound.Bound(of(1, 2, 0, 0, 0, 0).Num)
	wantInt(t, "Bound of 0", b, e, big.NewInt(1))
	b, e = bound.Hadamard(of(1, 2, 1, 2, 3, 4).Num)
	wantInt(t, "Hadamard", b, e, big.NewInt(12))
	b, e = bound.Hadamard(of(1, 2, 0, 0, 3, 4).Num)
	wantInt(t, "Hadamard of 0", b, e, new(big.Int))
	b, e = bound.Hadamard(of(1, 2, 3, 4, 3, 4).Num)
	wantInt(t, "Hadamard of a square", b, e, big.NewInt(25))
	radius, e := bound.Radius(of(-2, 2, -1, 2, 0, -2))
	wantRat(t, "Radius", radius, e, big.NewRat(3, 2))
	radius, e = bound.Radius(of(5, 1, 0))
	wantRat(t, "Radius of 0", radius, e, new(big.Rat))
	many := make([]int64, 24*24)
	for i := range many {
		many[i] = 1
	}
	l, e = bound.Coeffs(of(1, 24, many...).Num)
	if len(l) != 25 || large(l[24]).Cmp(new(big.Int).Exp(big.NewInt(24), big.NewInt(24), nil)) != 0 || e != api.OK {
		t.Errorf("Coeffs of 24 rows: %v, %d", l, e)
	}
}

func TestEnough(t *testing.T) { // P22.5
	for _, c := range []struct {
		bound int64
		p     []uint32
		a, b  bool
		e     api.Errno
	}{
		{3, []uint32{7}, true, true, api.OK}, {3, []uint32{2, 5}, true, true, api.OK}, {0, []uint32{2}, true, false, api.OK}, {0, nil, true, true, api.OK}, {1, nil, false, true, api.OK}, {3, []uint32{5}, false, true, api.OK},
		{3, []uint32{7, 2}, true, false, api.OK}, {3, []uint32{2, 3}, false, true, api.OK}, {3, []uint32{2, 3, 5}, true, true, api.OK}, {1, []uint32{2}, false, true, api.OK}, {1, []uint32{3}, true, true, api.OK},
		{-1, []uint32{4}, false, false, api.ErrArg}, {1, []uint32{4}, false, false, api.ErrPrime}, {1, []uint32{3, 3, 4}, false, false, api.ErrCrtTwice}, {1, []uint32{3, 4, 3}, false, false, api.ErrPrime}, {1, []uint32{0}, false, false, api.ErrPrime}, {1, []uint32{5, 7, 5}, false, false, api.ErrCrtTwice},
	} {
		a, b, e := bound.Enough(zint.Of(c.bound), c.p...)
		if a != c.a || b != c.b || e != c.e {
			t.Errorf("Enough(%d, %v): %t, %t, %d", c.bound, c.p, a, b, e)
		}
	}
	if a, b, e := bound.Enough(api.Int{Neg: true, Mag: api.Nat{0}}, 2); !a || b || e != api.OK {
		t.Errorf("Enough(-0, 2): %t, %t, %d", a, b, e)
	}
}

func TestChoose(t *testing.T) { // P22.6, P22.9
	r := rand.New(rand.NewSource(3))
	for range 100 {
		d := new(big.Int).Rand(r, new(big.Int).Lsh(big.NewInt(1), uint(r.Intn(60)+1)))
		d.Add(d, big.NewInt(1))
		if r.Intn(2) == 0 {
			d.Mul(d, big.NewInt(4294967279))
		}
		if r.Intn(2) == 0 {
			d.Neg(d)
		}
		b := new(big.Int).Rand(r, new(big.Int).Lsh(big.NewInt(1), uint(r.Intn(200))))
		got, e := bound.Choose(integer(d), integer(b))
		var w []uint32
		product := big.NewInt(1)
		for p := int64(math.MaxUint32); product.Cmp(new(big.Int).Lsh(b, 1)) <= 0; p-- {
			if x := big.NewInt(p); x.ProbablyPrime(0) && new(big.Int).Mod(d, x).Sign() != 0 {
				w = append(w, uint32(p))
				product.Mul(product, x)
			}
		}
		if !slices.Equal(got, w) || e != api.OK {
			t.Errorf("Choose(%v, %v): %v, %d, want %v", d, b, got, e, w)
		}
		if a, b, e := bound.Enough(integer(b), got...); !a || !b || e != api.OK {
			t.Errorf("Enough of Choose: %t, %t, %d", a, b, e)
		}
	}
	for _, c := range []struct {
		d, b int64
		w    []uint32
		e    api.Errno
	}{{1, 1, []uint32{4294967291}, api.OK}, {4294967291, 1, []uint32{4294967279}, api.OK}, {1, 0, nil, api.OK}, {0, 1, nil, api.ErrZero}, {0, -1, nil, api.ErrZero}, {-1, -1, nil, api.ErrArg}, {-4294967291, 2147483639, []uint32{4294967279}, api.OK}, {1, 2147483646, []uint32{4294967291, 4294967279}, api.OK}} {
		got, e := bound.Choose(zint.Of(c.d), zint.Of(c.b))
		if !slices.Equal(got, c.w) || e != c.e {
			t.Errorf("Choose(%d, %d): %v, %d", c.d, c.b, got, e)
		}
	}
}

func TestChooseLimit(t *testing.T) { // MaxPrimes
	most := api.Int{Mag: make(api.Nat, 10001)}
	most.Mag[10000] = 1 // 2^320000: too much for 10000 primes
	got, e := bound.Choose(zint.Of(1), most)
	fault(t, "Choose", e, api.ErrTooBig, got)
	most.Mag = append(most.Mag[:9999:9999], 1) // 2^319968 is little enough for 10000, which lack some bits each
	got, e = bound.Choose(zint.Of(1), most)
	if e != api.OK || len(got) != 10000 {
		t.Errorf("Choose of 10000: %d, %d", len(got), e)
	}
}

func TestFaults(t *testing.T) { // the faults of tables and of fit matrices
	ragged := [][]api.Int{{zint.Of(1)}, {}}
	wide := make([][]api.Int, 25)
	for i := range wide {
		wide[i] = make([]api.Int, 25)
	}
	for what, call := range map[string]func(x [][]api.Int) (any, api.Errno){
		"Sums":     func(x [][]api.Int) (any, api.Errno) { y, e := bound.Sums(x); return y, e },
		"Coeffs":   func(x [][]api.Int) (any, api.Errno) { y, e := bound.Coeffs(x); return y, e },
		"Bound":    func(x [][]api.Int) (any, api.Errno) { y, e := bound.Bound(x); return y, e },
		"Hadamard": func(x [][]api.Int) (any, api.Errno) { y, e := bound.Hadamard(x); return y, e },
	} {
		for _, c := range []struct {
			x [][]api.Int
			e api.Errno
		}{{ragged, api.ErrShape}, {append(wide[:25:25], nil), api.ErrShape}, {nil, api.ErrNotSquare}, {[][]api.Int{{}}, api.ErrNotSquare}, {[][]api.Int{{{}, {}}}, api.ErrNotSquare}, {[][]api.Int{{{}}, {{}}}, api.ErrNotSquare}, {wide[:24], api.ErrNotSquare}, {wide, api.ErrTooBig}} {
			y, e := call(c.x)
			fault(t, what, e, c.e, y)
		}
		if _, e := call([][]api.Int{{bits(9000)}}); e != api.OK {
			t.Errorf("%s of 9001 bits: %d", what, e)
		}
	}
	for _, c := range []struct {
		m api.Mat
		e api.Errno
	}{
		{api.Mat{}, api.ErrDen}, {api.Mat{Num: ragged}, api.ErrDen}, {api.Mat{Den: zint.Of(1), Num: ragged}, api.ErrShape}, {of(1, 2, 1, 2), api.ErrNotSquare}, {of(1, 1), api.ErrNotSquare},
		{api.Mat{Den: zint.Of(1), Num: wide}, api.ErrTooBig}, {api.Mat{Den: zint.Of(1), Num: [][]api.Int{{bits(4096)}}}, api.ErrTooBig},
	} {
		d, rows, e := bound.Integral(c.m)
		fault(t, "Integral", e, c.e, d, rows)
		x, e := bound.Radius(c.m)
		fault(t, "Radius", e, c.e, x)
	}
}

func TestMemory(t *testing.T) { // R3
	r := rand.New(rand.NewSource(4))
	for range 20 {
		m := some(r, 3, 3)
		b := api.Int{Mag: append(make(api.Nat, 0, 5), 9, 0)}
		primes := append(make([]uint32, 0, 5), 3, 5)
		given := []any{m, b, primes}
		for what, call := range map[string]func() []any{
			"Integral": func() []any { x, y, _ := bound.Integral(m); return []any{x, y} },
			"Sums":     func() []any { x, _ := bound.Sums(m.Num); return []any{x} },
			"Coeffs":   func() []any { x, _ := bound.Coeffs(m.Num); return []any{x} },
			"Bound":    func() []any { x, _ := bound.Bound(m.Num); y, _ := bound.Hadamard(m.Num); return []any{x, y} },
			"Enough":   func() []any { x, y, _ := bound.Enough(b, primes...); return []any{x, y} },
			"Choose":   func() []any { x, _ := bound.Choose(b, b); return []any{x} },
			"Radius":   func() []any { x, _ := bound.Radius(m); return []any{x} },
		} {
			memory(t, what, given, call)
		}
	}
}
