package commute_test

import (
	"fmt"
	"math/big"
	"math/rand"
	"testing"

	"simile/api"
	"simile/commute"
	"simile/evalm"
	"simile/frob"
	"simile/minpoly"
	"simile/qmat"
	"simile/qpoly"
	"simile/smith"
	"simile/zint"
)

// conjugated: the same matrix in another basis.
func conjugated(r *rand.Rand, m api.Mat, steps int) api.Mat {
	n := len(m.Num)
	for range steps {
		i, k := r.Intn(n), r.Intn(n)
		if i == k {
			continue
		}
		c := int64(r.Intn(3) - 1)
		step, _ := qmat.Identity(n)
		step.Num[i][k] = zint.Of(c)
		back, _ := qmat.Identity(n)
		back.Num[i][k] = zint.Of(-c)
		m, _ = qmat.Mul(back, m)
		m, _ = qmat.Mul(m, step)
	}
	return m
}

// family tells a matrix that much commutes with, now and then with fractions.
func family(r *rand.Rand, n int) api.Mat {
	m, _ := qmat.Zero(n, n)
	for i := range n {
		m.Num[i][i] = zint.Of(int64(r.Intn(2)))
		if i+1 < n {
			m.Num[i][i+1] = zint.Of(int64(r.Intn(2)))
		}
	}
	if r.Intn(3) == 0 {
		return some(r, n, n)
	}
	if r.Intn(3) == 0 {
		m.Den = zint.Of(-2)
	}
	return conjugated(r, m, n)
}

// flat: the entries of matrices, a row each.
func flat(l []api.Mat) table {
	var out table
	for _, m := range l {
		var row []*big.Rat
		for _, x := range list(m) {
			row = append(row, x...)
		}
		out = append(out, row)
	}
	return out
}

// dimension: of all x with a x = x b, by the rank of the equations.
func dimension(a, b table) int {
	n, c := len(a), len(b)
	var equations table
	for i := range n {
		for k := range c {
			row := make([]*big.Rat, n*c)
			for j := range row {
				row[j] = new(big.Rat)
			}
			for j := range n {
				row[j*c+k].Add(row[j*c+k], a[i][j])
			}
			for j := range c {
				row[i*c+j].Sub(row[i*c+j], b[j][k])
			}
			equations = append(equations, row)
		}
	}
	return n*c - len(reduced(equations))
}

// checkBasis: each leads from b to a, they are independent, and as many as there can be.
func checkBasis(t *testing.T, a, b api.Mat, l []api.Mat) {
	t.Helper()
	for _, x := range l {
		wantMat(t, "a member", x, api.OK, list(x))
		if len(x.Num) != len(a.Num) || len(x.Num[0]) != len(b.Num) || fmt.Sprint(times(list(a), list(x))) != fmt.Sprint(times(list(x), list(b))) {
			t.Errorf("%v does not lead from %v to %v", x, b, a)
		}
	}
	if d := dimension(list(a), list(b)); len(l) != d || len(reduced(flat(l))) != d {
		t.Errorf("of %v and %v there are %d, want %d", a, b, len(l), d)
	}
}

func TestBasis(t *testing.T) { // P25.1, P25.2, P25.4
	r := rand.New(rand.NewSource(1))
	for range 120 {
		n := r.Intn(4) + 1
		m := family(r, n)
		l, e := commute.Basis(m)
		if e != api.OK {
			t.Fatalf("Basis: %d", e)
		}
		checkBasis(t, m, m, l)
		d, e := commute.Dim(m)
		factors, _ := smith.Factors(m)
		sum := 0
		for i, f := range factors {
			sum += (2*(len(factors)-i) - 1) * (len(f) - 1)
		}
		if d != len(l) || d != sum || e != api.OK {
			t.Errorf("Dim(%v): %d, %d, want %d", m, d, e, sum)
		}
		x, _ := qmat.Zero(n, n)
		var w []*big.Rat
		for _, y := range l {
			c := api.Rat{Num: someInt(r), Den: someDen(r)}
			w = append(w, broken(c.Num, c.Den))
			part, _ := qmat.Scale(y, c)
			x, _ = qmat.Add(x, part)
		}
		checkCoordinates(t, m, x, w)
		id, _ := qmat.Identity(n)
		for _, y := range []api.Mat{id, m} {
			got, ok, e := commute.Coordinates(m, y)
			if !ok || e != api.OK {
				t.Fatalf("Coordinates(%v, %v): %d", m, y, e)
			}
			sum, _ := qmat.Zero(n, n)
			for i, c := range got {
				part, _ := qmat.Scale(l[i], c)
				sum, _ = qmat.Add(sum, part)
			}
			wantMat(t, "what the coordinates make", sum, e, list(y))
		}
		y, _ := qmat.Mul(x, l[r.Intn(len(l))])
		if is, e := commute.Does(m, y); !is || e != api.OK {
			t.Errorf("a product of what commutes with %v", m)
		}
	}
}

// checkCoordinates: those of x in Basis.
func checkCoordinates(t *testing.T, m, x api.Mat, w []*big.Rat) {
	t.Helper()
	got, ok, e := commute.Coordinates(m, x)
	if !ok || len(got) != len(w) {
		t.Fatalf("Coordinates(%v, %v): %v, %t, %d", m, x, got, ok, e)
	}
	for i, c := range got {
		wantRat(t, "Coordinates", c, e, w[i])
	}
}

func TestDoes(t *testing.T) { // P25.1, P25.2
	r := rand.New(rand.NewSource(2))
	for range 200 {
		n := r.Intn(3) + 1
		a, b := family(r, n), family(r, n)
		w := fmt.Sprint(times(list(a), list(b))) == fmt.Sprint(times(list(b), list(a)))
		if is, e := commute.Does(a, b); is != w || e != api.OK {
			t.Errorf("Does(%v, %v): %t, %d", a, b, is, e)
		}
		got, ok, e := commute.Coordinates(a, b)
		if ok != w || e != api.OK {
			t.Errorf("Coordinates(%v, %v): %t, %d", a, b, ok, e)
		}
		if !ok {
			fault(t, "Coordinates", e, api.OK, got)
			f, is, e := commute.Poly(a, b)
			fault(t, "Poly", e, api.OK, f, is)
		}
	}
}

func TestPoly(t *testing.T) { // P25.2, P25.5
	r := rand.New(rand.NewSource(3))
	for range 150 {
		n := r.Intn(4) + 1
		m, f := family(r, n), somePoly(r, 6)
		x, _ := evalm.At(f, m)
		rest, _ := minpoly.Rest(m, f)
		got, ok, e := commute.Poly(m, x)
		if wantPoly(t, fmt.Sprint("Poly ", m, x), got, e, listPoly(rest)); !ok {
			t.Errorf("Poly(%v, %v): false", m, x)
		}
		l, _ := commute.Basis(m)
		cyclic, _ := frob.Cyclic(m)
		all := true
		d, _ := minpoly.Degree(m)
		for _, y := range l {
			p, is, e := commute.Poly(m, y)
			all = all && is
			if !is {
				fault(t, "Poly", e, api.OK, p)
				continue
			}
			if at, _ := evalm.At(p, m); len(p) > d || fmt.Sprint(list(at)) != fmt.Sprint(list(y)) {
				t.Errorf("Poly(%v, %v): %v", m, y, p)
			}
		}
		if all != cyclic {
			t.Errorf("all that commutes with %v is a polynomial: %t", m, all)
		}
	}
}

func TestBetween(t *testing.T) { // P25.3, P25.6
	r := rand.New(rand.NewSource(4))
	for range 120 {
		a, b := family(r, r.Intn(4)+1), family(r, r.Intn(4)+1)
		l, e := commute.Between(a, b)
		if checkBasis(t, a, b, l); e != api.OK {
			t.Fatalf("Between: %d", e)
		}
		x, _ := frob.Invariants(a)
		y, _ := frob.Invariants(b)
		sum := 0
		for _, f := range x {
			for _, g := range y {
				common, _ := qpoly.Gcd(f, g)
				sum += len(common) - 1
			}
		}
		d, _ := commute.Dim(a)
		same, e := commute.Between(a, a)
		if len(l) != sum || len(same) != d || e != api.OK {
			t.Errorf("Between(%v, %v): %d, want %d", a, b, len(l), sum)
		}
	}
}

func TestExamples(t *testing.T) {
	for _, n := range []int{3, 12} {
		id, _ := qmat.Identity(n)
		d, e := commute.Dim(id)
		l, e2 := commute.Basis(id)
		if d != n*n || len(l) != n*n || e != api.OK || e2 != api.OK {
			t.Errorf("Dim of the identity: %d, %d", d, len(l))
		}
	}
	if d, _ := commute.Dim(of(1, 2, 0, -6, 1, 5)); d != 2 {
		t.Errorf("Dim: %d", d)
	}
	if d, _ := commute.Dim(of(1, 2, 2, 0, 0, 3)); d != 2 {
		t.Errorf("Dim: %d", d)
	}
	nil2 := of(1, 2, 0, 1, 0, 0)
	f, ok, e := commute.Poly(nil2, of(1, 2, 2, 3, 0, 2))
	if wantPoly(t, "Poly", f, e, listPoly(coeffs(2, 3))); !ok {
		t.Error("Poly")
	}
	f, ok, e = commute.Poly(nil2, of(5, 2, 0, 0, 0, 0))
	if wantPoly(t, "Poly of 0", f, e, nil); !ok {
		t.Error("Poly of 0")
	}
	id, other := of(1, 2, 1, 0, 0, 1), of(1, 2, 1, 0, 0, 2)
	f, ok, e = commute.Poly(id, other)
	fault(t, "Poly", e, api.OK, f, ok)
	is, _ := commute.Does(id, other)
	_, has, _ := commute.Coordinates(id, other)
	if !is || !has {
		t.Error("what commutes with the identity")
	}
	if is, _ := commute.Does(nil2, of(1, 2, 0, 0, 1, 0)); is {
		t.Error("Does")
	}
	l, e := commute.Between(of(1, 1, 2), of(1, 1, 3))
	fault(t, "Between of what has nothing in common", e, api.OK, l)
}

func TestLarge(t *testing.T) { // 24 rows
	r := rand.New(rand.NewSource(5))
	l := make([]int64, 24*24)
	for i := range l {
		l[i] = int64(r.Intn(9) - 4)
	}
	m := of(1, 24, l...)
	basis, e := commute.Basis(m)
	if len(basis) != 24 || e != api.OK {
		t.Fatalf("Basis of 24 rows: %d, %d", len(basis), e)
	}
	for _, x := range basis {
		left, _ := qmat.Mul(m, x)
		right, _ := qmat.Mul(x, m)
		if same, _ := qmat.Equal(left, right); !same {
			t.Error("Basis of 24 rows")
		}
	}
	square, _ := qmat.Mul(m, m)
	f, ok, e := commute.Poly(m, square)
	if wantPoly(t, "Poly of the square", f, e, listPoly(coeffs(0, 0, 1))); !ok {
		t.Error("Poly of the square")
	}
	if c, ok, e := commute.Coordinates(m, square); len(c) != 24 || !ok || e != api.OK {
		t.Errorf("Coordinates of the square: %d", e)
	}
}

func TestFaults(t *testing.T) { // the errors, from the left
	ragged := api.Mat{Den: zint.Of(1), Num: [][]api.Int{{zint.Of(1)}, {}}}
	two := of(1, 2, 1, 2, 3, 4)
	for what, call := range map[string]func(m api.Mat) ([]any, api.Errno){
		"Does":   func(m api.Mat) ([]any, api.Errno) { x, e := commute.Does(m, api.Mat{}); return []any{x}, e },
		"Does 2": func(m api.Mat) ([]any, api.Errno) { x, e := commute.Does(two, m); return []any{x}, e },
		"Basis":  func(m api.Mat) ([]any, api.Errno) { x, e := commute.Basis(m); return []any{x}, e },
		"Dim":    func(m api.Mat) ([]any, api.Errno) { x, e := commute.Dim(m); return []any{x}, e },
		"Coordinates": func(m api.Mat) ([]any, api.Errno) {
			x, y, e := commute.Coordinates(m, api.Mat{})
			return []any{x, y}, e
		},
		"Coordinates 2": func(m api.Mat) ([]any, api.Errno) { x, y, e := commute.Coordinates(two, m); return []any{x, y}, e },
		"Poly":          func(m api.Mat) ([]any, api.Errno) { x, y, e := commute.Poly(m, api.Mat{}); return []any{x, y}, e },
		"Poly 2":        func(m api.Mat) ([]any, api.Errno) { x, y, e := commute.Poly(two, m); return []any{x, y}, e },
		"Between":       func(m api.Mat) ([]any, api.Errno) { x, e := commute.Between(m, api.Mat{}); return []any{x}, e },
		"Between 2":     func(m api.Mat) ([]any, api.Errno) { x, e := commute.Between(two, m); return []any{x}, e },
	} {
		for _, c := range []struct {
			m api.Mat
			e api.Errno
		}{
			{api.Mat{}, api.ErrDen}, {api.Mat{Num: ragged.Num}, api.ErrDen}, {ragged, api.ErrShape}, {of(1, 2, 1, 2), api.ErrNotSquare}, {of(1, 1), api.ErrNotSquare}, {of(1, 1, 1, 2), api.ErrNotSquare},
			{of(1, 25, make([]int64, 625)...), api.ErrTooBig}, {api.Mat{Den: zint.Of(1), Num: [][]api.Int{{bits(4096)}}}, api.ErrTooBig},
		} {
			x, e := call(c.m)
			fault(t, what, e, c.e, x...)
		}
	}
	one := of(1, 1, 1)
	is, e := commute.Does(one, two)
	fault(t, "Does", e, api.ErrShape, is)
	l, ok, e := commute.Coordinates(one, two)
	fault(t, "Coordinates", e, api.ErrShape, l, ok)
	f, ok, e := commute.Poly(one, two)
	fault(t, "Poly", e, api.ErrShape, f, ok)
}

func TestMemory(t *testing.T) { // R3
	r := rand.New(rand.NewSource(6))
	for range 12 {
		a, b := family(r, 3), family(r, 3)
		x, _ := evalm.At(coeffs(1, 2, 1), a)
		given := []any{a, b, x}
		for what, call := range map[string]func() []any{
			"Does":        func() []any { x, _ := commute.Does(a, b); y, _ := commute.Dim(a); return []any{x, y} },
			"Basis":       func() []any { x, _ := commute.Basis(a); return []any{x} },
			"Coordinates": func() []any { y, ok, _ := commute.Coordinates(a, x); return []any{y, ok} },
			"Poly":        func() []any { y, ok, _ := commute.Poly(a, x); return []any{y, ok} },
			"Between":     func() []any { x, _ := commute.Between(a, b); return []any{x} },
		} {
			memory(t, what, given, call)
		}
	}
}
