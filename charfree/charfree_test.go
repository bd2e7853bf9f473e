package charfree_test

import (
	"fmt"
	"math/big"
	"math/rand"
	"testing"

	"simile/api"
	"simile/bareiss"
	"simile/charfree"
	"simile/evalm"
	"simile/qmat"
	"simile/qpoly"
	"simile/zint"
)

// det: the determinant by the first row.
func det(m table) *big.Rat {
	if len(m) == 0 {
		return big.NewRat(1, 1)
	}
	sum := new(big.Rat)
	for c, x := range m[0] {
		var rest table
		for _, row := range m[1:] {
			rest = append(rest, append(append([]*big.Rat{}, row[:c]...), row[c+1:]...))
		}
		term := new(big.Rat).Mul(x, det(rest))
		if c%2 == 1 {
			term.Neg(term)
		}
		sum.Add(sum, term)
	}
	return sum
}

// minors: the sum of all minors with the same k rows and columns.
func minors(m table, k int) *big.Rat {
	sum := new(big.Rat)
	for set := range 1 << len(m) {
		var places []int
		for i := range m {
			if set>>i&1 == 1 {
				places = append(places, i)
			}
		}
		if len(places) != k {
			continue
		}
		var part table
		for _, i := range places {
			var row []*big.Rat
			for _, j := range places {
				row = append(row, m[i][j])
			}
			part = append(part, row)
		}
		sum.Add(sum, det(part))
	}
	return sum
}

func TestRoads(t *testing.T) { // P20.1, P20.2, P20.3, P20.5, P20.8, P20.9, P20.10
	r := rand.New(rand.NewSource(1))
	for range 150 {
		n := r.Intn(5) + 1
		m := some(r, n, n)
		w := charOf(list(m))
		what := fmt.Sprint(m)
		f, e := charfree.Berkowitz(m)
		wantPoly(t, "Berkowitz "+what, f, e, w)
		f, e = charfree.Interpolated(m)
		wantPoly(t, "Interpolated "+what, f, e, w)
		f, adjugate, e := charfree.Leverrier(m)
		wantPoly(t, "Leverrier "+what, f, e, w)
		adj, _ := bareiss.Adjugate(m)
		wantMat(t, "Leverrier's adjugate of "+what, adjugate, e, list(adj))
		sums, e := charfree.Sums(m)
		if len(sums) != n+1 {
			t.Fatalf("Sums(%v): %v", m, sums)
		}
		for k, x := range sums {
			wantRat(t, "Sums", x, e, minors(list(m), k))
			c := new(big.Rat).Set(w[n-k])
			if k%2 == 1 {
				c.Neg(c)
			}
			wantRat(t, "Sums and coefficients", x, e, c)
		}
		zero, e := charfree.Cayley(m)
		wantMat(t, "Cayley", zero, e, plus(list(m), list(m), big.NewRat(-1, 1)))
		traces, _ := evalm.Traces(m, n)
		f, e = charfree.FromTraces(traces...)
		wantPoly(t, "FromTraces", f, e, w)
		trace, _ := qmat.Trace(m)
		d, _ := bareiss.Det(m)
		if n%2 == 1 {
			d.Num.Neg = !d.Num.Neg
		}
		if broken(trace.Num, trace.Den).Cmp(new(big.Rat).Neg(w[n-1])) != 0 || broken(d.Num, d.Den).Cmp(w[0]) != 0 {
			t.Errorf("the trace and the determinant of %v", m)
		}
	}
}

func TestBlocks(t *testing.T) { // P20.11
	r := rand.New(rand.NewSource(2))
	for range 60 {
		n := r.Intn(3) + 1
		k := r.Intn(2) + 1
		a, b, c := some(r, n, n), some(r, n, n), some(r, k, k)
		fa, _ := charfree.Berkowitz(a)
		fc, _ := charfree.Berkowitz(c)
		product, _ := qpoly.Mul(fa, fc)
		both, _ := qmat.Blocks(a, c)
		f, e := charfree.Berkowitz(both)
		wantPoly(t, "that of blocks", f, e, listPoly(product))
		ab, _ := qmat.Mul(a, b)
		ba, _ := qmat.Mul(b, a)
		fab, _ := charfree.Interpolated(ab)
		f, e = charfree.Interpolated(ba)
		wantPoly(t, "that of b a", f, e, listPoly(fab))
		turn, _ := qmat.Transpose(a)
		f, _, e = charfree.Leverrier(turn)
		wantPoly(t, "that of the transpose", f, e, listPoly(fa))
		if inverse, e := bareiss.Inverse(b); e == api.OK {
			conj, _ := qmat.Mul(inverse, a)
			conj, _ = qmat.Mul(conj, b)
			f, e = charfree.Berkowitz(conj)
			wantPoly(t, "that of S^-1 m S", f, e, listPoly(fa))
		}
	}
}

func TestShifted(t *testing.T) { // P20.6, P20.12
	r := rand.New(rand.NewSource(3))
	for range 80 {
		n := r.Intn(4) + 1
		m, c := some(r, n, n), api.Rat{Num: someInt(r), Den: someDen(r)}
		w := charOf(plus(list(m), unit(n), new(big.Rat).Neg(broken(c.Num, c.Den))))
		f, e := charfree.Shifted(m, c)
		wantPoly(t, "Shifted", f, e, w)
		char, _ := charfree.Berkowitz(m)
		moved, e := qpoly.Compose(char, api.Poly{c, ratio(1, 1)})
		wantPoly(t, "m's at x + c", moved, e, w)
	}
	good := of(1, 2, 1, 2, 3, 4)
	f, e := charfree.Shifted(good, ratio(1, 1))
	wantPoly(t, "Shifted", f, e, listPoly(coeffs(-6, -3, 1)))
	f, e = charfree.Shifted(good, ratio(1, 0))
	fault(t, "Shifted", e, api.ErrDen, f)
	f, e = charfree.Shifted(of(1, 2, 1, 2), ratio(1, 0))
	fault(t, "Shifted", e, api.ErrNotSquare, f)
	f, e = charfree.Shifted(of(1, 1, 1), api.Rat{Num: bits(5000), Den: zint.Of(1)})
	wantPoly(t, "Shifted by 2^5000", f, e, poly{new(big.Rat).SetInt(new(big.Int).Sub(large(bits(5000)), big.NewInt(1))), big.NewRat(1, 1)})
}

func TestPencil(t *testing.T) { // P20.7, P20.12
	r := rand.New(rand.NewSource(4))
	for range 80 {
		n := r.Intn(4) + 1
		a, b := some(r, n, n), some(r, n, n)
		f, e := charfree.Pencil(a, b)
		wantPoly(t, "Pencil", f, e, listPoly(f))
		if len(f) > n+1 {
			t.Errorf("Pencil(%v, %v): %v", a, b, f)
		}
		for x := int64(-3); x < int64(n+2); x++ {
			at := new(big.Rat)
			for i := len(f) - 1; i >= 0; i-- {
				at.Add(at.Mul(at, big.NewRat(x, 1)), listPoly(f)[i])
			}
			scaled := plus(plus(list(b), list(b), big.NewRat(x-1, 1)), list(a), big.NewRat(-1, 1))
			if w := det(scaled); at.Cmp(w) != 0 {
				t.Errorf("Pencil(%v, %v) at %d: %v, want %v", a, b, x, at, w)
			}
		}
		id, _ := qmat.Identity(n)
		f, e = charfree.Pencil(a, id)
		wantPoly(t, "Pencil of the identity", f, e, charOf(list(a)))
	}
	id, _ := qmat.Identity(2)
	f, e := charfree.Pencil(id, of(1, 2, 0, 0, 0, 0))
	wantPoly(t, "Pencil", f, e, listPoly(coeffs(1)))
	f, e = charfree.Pencil(of(1, 1, 2), of(1, 1, 3))
	wantPoly(t, "Pencil", f, e, listPoly(coeffs(-2, 3)))
	f, e = charfree.Pencil(of(1, 2, 0, 0, 0, 0), of(1, 2, 0, 0, 0, 0))
	wantPoly(t, "Pencil of 0", f, e, nil)
	f, e = charfree.Pencil(id, of(1, 1, 1))
	fault(t, "Pencil", e, api.ErrShape, f)
	f, e = charfree.Pencil(id, of(1, 2, 1, 2))
	fault(t, "Pencil", e, api.ErrNotSquare, f)
	f, e = charfree.Pencil(of(1, 2, 1, 2), api.Mat{})
	fault(t, "Pencil", e, api.ErrNotSquare, f)
}

func TestFromTraces(t *testing.T) { // P20.4
	f, e := charfree.FromTraces(ratio(5, 1), ratio(29, 1))
	wantPoly(t, "FromTraces", f, e, listPoly(coeffs(-2, -5, 1)))
	f, e = charfree.FromTraces()
	wantPoly(t, "FromTraces of none", f, e, listPoly(coeffs(1)))
	f, e = charfree.FromTraces(ratio(-6, -4))
	wantPoly(t, "FromTraces", f, e, poly{big.NewRat(-3, 2), big.NewRat(1, 1)})
	many := make([]api.Rat, 25)
	for i := range many {
		many[i] = ratio(0, 3)
	}
	f, e = charfree.FromTraces(many[:24]...)
	wantPoly(t, "FromTraces of 24 noughts", f, e, listPoly(append(coeffs(make([]int64, 24)...), ratio(1, 1))))
	f, e = charfree.FromTraces(many...)
	fault(t, "FromTraces of 25", e, api.ErrTooBig, f)
	many[24] = ratio(1, 0)
	f, e = charfree.FromTraces(many...)
	fault(t, "FromTraces of 25", e, api.ErrDen, f)
	f, e = charfree.FromTraces(api.Rat{Num: bits(4096), Den: zint.Of(1)}, ratio(1, 0))
	fault(t, "FromTraces", e, api.ErrDen, f)
	f, e = charfree.FromTraces(ratio(1, 1), api.Rat{Num: zint.Of(1), Den: bits(4096)})
	fault(t, "FromTraces", e, api.ErrTooBig, f)
	f, e = charfree.FromTraces(api.Rat{Num: bits(5001), Den: bits(5000)})
	wantPoly(t, "FromTraces of 2^5001 over 2^5000", f, e, listPoly(coeffs(-2, 1)))
}

func TestExamples(t *testing.T) {
	m := of(1, 2, 1, 2, 3, 4)
	f, adj, e := charfree.Leverrier(m)
	wantPoly(t, "Leverrier", f, e, listPoly(coeffs(-2, -5, 1)))
	wantMat(t, "Leverrier", adj, e, list(of(1, 2, 4, -2, -3, 1)))
	sums, e := charfree.Sums(m)
	wantPoly(t, "Sums", sums, e, listPoly(coeffs(1, 5, -2)))
	f, e = charfree.Berkowitz(of(1, 1, 7))
	wantPoly(t, "Berkowitz", f, e, listPoly(coeffs(-7, 1)))
	f, adj, e = charfree.Leverrier(of(1, 1, 0))
	wantPoly(t, "Leverrier", f, e, listPoly(coeffs(0, 1)))
	wantMat(t, "Leverrier", adj, e, unit(1))
	f, e = charfree.Interpolated(api.Mat{Den: zint.Of(6), Num: of(1, 2, 3, 6, 0, 2).Num})
	wantPoly(t, "Interpolated", f, e, poly{big.NewRat(1, 6), big.NewRat(-5, 6), big.NewRat(1, 1)})
}

func TestLarge(t *testing.T) { // 24 rows, and numbers at the limit
	r := rand.New(rand.NewSource(5))
	l := make([]int64, 24*24)
	for i := range l {
		l[i] = int64(r.Intn(19) - 9)
	}
	m := of(7, 24, l...)
	w := charOf(list(m))
	f, e := charfree.Berkowitz(m)
	wantPoly(t, "Berkowitz of 24 rows", f, e, w)
	f, e = charfree.Interpolated(m)
	wantPoly(t, "Interpolated of 24 rows", f, e, w)
	f, _, e = charfree.Leverrier(m)
	wantPoly(t, "Leverrier of 24 rows", f, e, w)
	m = api.Mat{Den: zint.Of(1), Num: [][]api.Int{{bits(4095), zint.Of(1)}, {zint.Of(3), bits(4095)}}}
	w = charOf(list(m))
	f, e = charfree.Berkowitz(m)
	wantPoly(t, "Berkowitz of 4096 bits", f, e, w)
	f, e = charfree.Interpolated(m)
	wantPoly(t, "Interpolated of 4096 bits", f, e, w)
	zero, e := charfree.Cayley(m)
	wantMat(t, "Cayley of 4096 bits", zero, e, plus(list(m), list(m), big.NewRat(-1, 1)))
}

func TestFaults(t *testing.T) { // the faults of a fit matrix
	ragged := api.Mat{Den: zint.Of(1), Num: [][]api.Int{{zint.Of(1)}, {}}}
	good := of(1, 1, 1)
	for what, call := range map[string]func(m api.Mat) ([]any, api.Errno){
		"Berkowitz":    func(m api.Mat) ([]any, api.Errno) { x, e := charfree.Berkowitz(m); return []any{x}, e },
		"Interpolated": func(m api.Mat) ([]any, api.Errno) { x, e := charfree.Interpolated(m); return []any{x}, e },
		"Leverrier":    func(m api.Mat) ([]any, api.Errno) { x, y, e := charfree.Leverrier(m); return []any{x, y}, e },
		"Sums":         func(m api.Mat) ([]any, api.Errno) { x, e := charfree.Sums(m); return []any{x}, e },
		"Cayley":       func(m api.Mat) ([]any, api.Errno) { x, e := charfree.Cayley(m); return []any{x}, e },
		"Shifted":      func(m api.Mat) ([]any, api.Errno) { x, e := charfree.Shifted(m, api.Rat{}); return []any{x}, e },
		"Pencil":       func(m api.Mat) ([]any, api.Errno) { x, e := charfree.Pencil(m, api.Mat{}); return []any{x}, e },
		"Pencil 2":     func(m api.Mat) ([]any, api.Errno) { x, e := charfree.Pencil(good, m); return []any{x}, e },
	} {
		for _, c := range []struct {
			m api.Mat
			e api.Errno
		}{
			{api.Mat{}, api.ErrDen}, {api.Mat{Num: ragged.Num}, api.ErrDen}, {ragged, api.ErrShape}, {of(1, 2, 1, 2), api.ErrNotSquare}, {of(1, 1), api.ErrNotSquare}, {of(1, 1, 1, 2), api.ErrNotSquare},
			{of(1, 25, make([]int64, 625)...), api.ErrTooBig}, {api.Mat{Den: zint.Of(1), Num: [][]api.Int{{bits(4096)}}}, api.ErrTooBig}, {api.Mat{Den: bits(4096), Num: [][]api.Int{{zint.Of(1)}}}, api.ErrTooBig},
		} {
			x, e := call(c.m)
			fault(t, what, e, c.e, x...)
		}
	}
}

func TestMemory(t *testing.T) { // R3, R4
	r := rand.New(rand.NewSource(6))
	for range 20 {
		m, b := some(r, 3, 3), some(r, 3, 3)
		traces := []api.Rat{ratio(4, 2), ratio(0, 1)}
		given := []any{m, b, traces}
		for what, call := range map[string]func() []any{
			"Berkowitz":    func() []any { x, _ := charfree.Berkowitz(m); return []any{x} },
			"Interpolated": func() []any { x, _ := charfree.Interpolated(m); return []any{x} },
			"Leverrier":    func() []any { x, y, _ := charfree.Leverrier(m); return []any{x, y} },
			"Sums":         func() []any { x, _ := charfree.Sums(m); return []any{x} },
			"FromTraces":   func() []any { x, _ := charfree.FromTraces(traces...); return []any{x} },
			"Cayley":       func() []any { x, _ := charfree.Cayley(m); return []any{x} },
			"Shifted":      func() []any { x, _ := charfree.Shifted(m, traces[0]); return []any{x} },
			"Pencil":       func() []any { x, _ := charfree.Pencil(m, b); return []any{x} },
		} {
			memory(t, what, given, call)
		}
	}
}
