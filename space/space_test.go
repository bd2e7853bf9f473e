package space_test

import (
	"fmt"
	"math"
	"math/big"
	"math/rand"
	"testing"

	"simile/api"
	"simile/qmat"
	"simile/space"
	"simile/zint"
)

// subspace tells some vectors of n entries, and the space that they span, sometimes in another form.
func subspace(t *testing.T, r *rand.Rand, n int) ([]api.Vec, api.Space) {
	t.Helper()
	var l []api.Vec
	for range r.Intn(n + 2) {
		l = append(l, someVec(r, n))
	}
	s, e := space.Span(n, l...)
	want(t, "Span", s, e, n, rowsOf(l...))
	if r.Intn(2) == 0 {
		c := zint.Of(int64(-1 - r.Intn(3)))
		s.Basis.Den = zint.Mul(s.Basis.Den, c)
		for _, row := range s.Basis.Num {
			for k := range row {
				row[k] = zint.Mul(row[k], c)
				row[k].Mag = append(row[k].Mag, 0)
			}
		}
	}
	return l, s
}

func TestSpan(t *testing.T) { // P13.2, P13.6
	r := rand.New(rand.NewSource(1))
	for range 300 {
		n := r.Intn(6)
		l, s := subspace(t, r, n)
		rows := reduced(rowsOf(l...))
		if e := space.Check(s); e != api.OK {
			t.Fatalf("Check(%v): %d", s, e)
		}
		if d, e := space.Dim(s); d != len(rows) || e != api.OK {
			t.Errorf("Dim(%v): %d, %d", s, d, e)
		}
		var basis []api.Vec
		for _, row := range s.Basis.Num {
			basis = append(basis, api.Vec{Den: s.Basis.Den, Num: row})
		}
		again, e := space.Span(n, basis...)
		want(t, "Span of the basis", again, e, n, rows)
		v := someVec(r, n)
		if r.Intn(2) == 0 {
			v = api.Vec{Den: zint.Of(-2), Num: make([]api.Int, n)}
			for _, x := range l {
				v, _ = qmat.VecAdd(v, x, api.Rat{Num: zint.Of(int64(r.Intn(5) - 2)), Den: zint.Of(3)})
			}
		}
		in := len(reduced(append(rowsOf(l...), rowsOf(v)...))) == len(rows)
		has, e := space.Has(s, v)
		x, ok, e2 := space.Coordinates(s, v)
		if has != in || ok != in || e != api.OK || e2 != api.OK {
			t.Errorf("Has(%v, %v): %t, %t", s, v, has, ok)
		}
		if !in {
			fault(t, "Coordinates", e2, api.OK, len(x.Num), len(x.Den.Mag))
			continue
		}
		sum := make([]*big.Rat, n)
		for k := range sum {
			sum[k] = new(big.Rat)
			for i, c := range rowsOf(x)[0] {
				sum[k].Add(sum[k], new(big.Rat).Mul(c, rows[i][k]))
			}
		}
		if fmt.Sprint(sum) != fmt.Sprint(rowsOf(v)[0]) || !wantRows(x.Den, [][]api.Int{x.Num}, rowsOf(x)) || len(x.Num) != len(rows) {
			t.Errorf("Coordinates(%v, %v): %v", s, v, x)
		}
	}
}

func TestTwo(t *testing.T) { // P13.2, P13.4, P13.7
	r := rand.New(rand.NewSource(2))
	for range 300 {
		n := r.Intn(6)
		la, a := subspace(t, r, n)
		lb, b := subspace(t, r, n)
		if r.Intn(3) == 0 {
			lb = append(lb, la...)
			b, _ = space.Span(n, lb...)
		}
		da, db := len(reduced(rowsOf(la...))), len(reduced(rowsOf(lb...)))
		all := append(rowsOf(la...), rowsOf(lb...)...)
		both := len(reduced(all))
		sum, e := space.Sum(a, b)
		want(t, "Sum", sum, e, n, all)
		if in, e := space.Within(a, b); in != (both == db) || e != api.OK {
			t.Errorf("Within(%v, %v): %t", a, b, in)
		}
		if same, e := space.Equal(a, b); same != (both == da && both == db) || e != api.OK {
			t.Errorf("Equal(%v, %v): %t", a, b, same)
		}
		if same, e := space.Equal(a, a); !same || e != api.OK {
			t.Errorf("Equal(%v, itself)", a)
		}
		meet, e := space.Meet(a, b)
		rows := list(meet.Basis.Den, meet.Basis.Num)
		want(t, "Meet", meet, e, n, rows)
		if len(rows) != da+db-both || len(reduced(append(rowsOf(la...), rows...))) != da || len(reduced(append(rowsOf(lb...), rows...))) != db {
			t.Errorf("Meet(%v, %v): %v", a, b, meet)
		}
		other, e := space.Complement(a)
		units := list(other.Basis.Den, other.Basis.Num)
		want(t, "Complement", other, e, n, units)
		for _, row := range units {
			ones := 0
			for k, x := range row {
				if x.Sign() != 0 {
					ones++
					for _, base := range reduced(rowsOf(la...)) {
						first := 0
						for base[first].Sign() == 0 {
							first++
						}
						if first == k {
							t.Errorf("Complement(%v): %v", a, other)
						}
					}
				}
			}
			if ones != 1 {
				t.Errorf("Complement(%v): %v", a, other)
			}
		}
		whole, _ := space.Sum(a, other)
		none, _ := space.Meet(a, other)
		d, _ := space.Dim(whole)
		d2, _ := space.Dim(none)
		if d != n || d2 != 0 {
			t.Errorf("a space of %d in %d and its Complement make %d, meet in %d", da, n, d, d2)
		}
	}
}

func TestMatrices(t *testing.T) { // P13.3, P13.5
	r := rand.New(rand.NewSource(3))
	for range 300 {
		n, c := r.Intn(5), r.Intn(5)
		if n == 0 {
			c = 0
		}
		m := some(r, n, c)
		kernel, e := space.Kernel(m)
		rows := list(kernel.Basis.Den, kernel.Basis.Num)
		want(t, "Kernel", kernel, e, c, rows)
		columns, _ := qmat.Columns(m)
		image, e := space.Image(m)
		want(t, "Image", image, e, n, rowsOf(columns...))
		if len(rows)+len(reduced(rowsOf(columns...))) != c {
			t.Errorf("Kernel of %v: %v", m, kernel)
		}
		for _, row := range kernel.Basis.Num {
			v, _ := qmat.Apply(m, api.Vec{Den: kernel.Basis.Den, Num: row})
			if len(reduced(rowsOf(v))) > 0 {
				t.Errorf("Kernel of %v: %v", m, kernel)
			}
		}
		l, s := subspace(t, r, c)
		var images []api.Vec
		for _, v := range l {
			x, _ := qmat.Apply(m, v)
			images = append(images, x)
		}
		under, e := space.Under(m, s)
		want(t, "Under", under, e, n, rowsOf(images...))
		if n == c && n > 0 {
			stays, e := space.Stays(m, s)
			if in := len(reduced(append(rowsOf(l...), rowsOf(images...)...))) == len(reduced(rowsOf(l...))); stays != in || e != api.OK {
				t.Errorf("Stays(%v, %v): %t", m, s, stays)
			}
		}
	}
}

func TestIndependent(t *testing.T) { // P13.3
	r := rand.New(rand.NewSource(4))
	for range 400 {
		n := r.Intn(5)
		var l []api.Vec
		for range r.Intn(n + 3) {
			l = append(l, someVec(r, n))
		}
		place, want := 0, true
		for i := range l {
			if len(reduced(rowsOf(l[:i+1]...))) == i {
				place, want = i, false
				break
			}
		}
		if got, ok, e := space.Independent(n, l...); got != place || ok != want || e != api.OK {
			t.Errorf("Independent(%d, %v): %d, %t, %d", n, l, got, ok, e)
		}
	}
	if got, ok, _ := space.Independent(2, vec(1, 2, 4), vec(1, 1, 2)); got != 1 || ok {
		t.Errorf("Independent: %d, %t", got, ok)
	}
	if got, ok, _ := space.Independent(0); got != 0 || !ok {
		t.Errorf("Independent of none: %d, %t", got, ok)
	}
	if got, ok, _ := space.Independent(0, vec(1)); got != 0 || ok {
		t.Errorf("Independent of an empty vector: %d, %t", got, ok)
	}
	many := []api.Vec{vec(1, 0, 1), vec(1, 1, 0)}
	for range 20 {
		many = append(many, vec(1, 1, 1))
	}
	if got, ok, _ := space.Independent(2, many...); got != 2 || ok {
		t.Errorf("Independent of many: %d, %t", got, ok)
	}
}

func TestExamples(t *testing.T) {
	s, e := space.Span(2, vec(1, 2, 4), vec(1, 1, 2))
	want(t, "Span", s, e, 2, rowsOf(vec(1, 1, 2)))
	x, ok, e := space.Coordinates(s, vec(1, 3, 6))
	if fmt.Sprint(rowsOf(x)) != "[[3/1]]" || !ok || e != api.OK {
		t.Errorf("Coordinates: %v, %t, %d", x, ok, e)
	}
	other, e := space.Complement(s)
	want(t, "Complement", other, e, 2, rowsOf(vec(1, 0, 1)))
	s, e = space.Kernel(of(1, 2, 1, 1))
	want(t, "Kernel", s, e, 2, rowsOf(vec(1, 1, -1)))
	s, e = space.Image(of(1, 1))
	want(t, "Image of no rows", s, e, 0, nil)
	s, e = space.Kernel(of(1, 1))
	want(t, "Kernel of no rows", s, e, 0, nil)
	hollow := api.Mat{Den: zint.Of(1), Num: make([][]api.Int, 3)}
	s, e = space.Image(hollow)
	want(t, "Image of rows of nothing", s, e, 3, nil)
	s, e = space.Kernel(hollow)
	want(t, "Kernel of rows of nothing", s, e, 0, nil)
	s, e = space.Under(hollow, s)
	want(t, "Under rows of nothing", s, e, 3, nil)
}

func TestCheck(t *testing.T) { // P13.1
	nothing, ragged := api.Mat{Num: [][]api.Int{{{}}, {}}}, api.Mat{Den: zint.Of(2), Num: [][]api.Int{{{}}, {}}}
	for _, c := range []struct {
		n int
		m api.Mat
		e api.Errno
	}{
		{-1, nothing, api.ErrArg}, {math.MinInt, of(1, 1), api.ErrArg}, {1001, nothing, api.ErrTooBig}, {math.MaxInt, of(1, 1), api.ErrTooBig}, {2, nothing, api.ErrDen}, {0, api.Mat{}, api.ErrDen},
		{2, ragged, api.ErrShape}, {3, of(1, 2, 1, 0), api.ErrShape}, {0, of(1, 1, 1), api.ErrShape}, {1, api.Mat{Den: zint.Of(1), Num: [][]api.Int{{}}}, api.ErrShape},
		{0, api.Mat{Den: zint.Of(1), Num: [][]api.Int{{}}}, api.ErrSpace}, {2, of(1, 2, 2, 0), api.ErrSpace}, {2, of(1, 2, 0, 0), api.ErrSpace}, {2, of(1, 2, -1, 0), api.ErrSpace},
		{2, of(1, 2, 0, 1, 1, 0), api.ErrSpace}, {2, of(1, 2, 1, 1, 0, 1), api.ErrSpace}, {2, of(1, 2, 1, 0, 1, 1), api.ErrSpace}, {2, of(1, 2, 1, 0, 1, 0), api.ErrSpace}, {2, of(1, 2, 1, 0, 0, 0), api.ErrSpace}, {2, of(2, 2, 1, 0), api.ErrSpace},
		{2, of(2, 2, 2, 0), api.OK}, {2, of(-2, 2, -2, 5), api.OK}, {2, of(1, 2, 1, 0, 0, 1), api.OK}, {3, of(3, 3, 3, 7, 0, 0, 0, 3), api.OK}, {1000, of(1, 1), api.OK}, {0, of(-5, 1), api.OK},
	} {
		if e := space.Check(api.Space{N: c.n, Basis: c.m}); e != c.e {
			t.Errorf("Check(%d, %v): %d, want %d", c.n, c.m, e, c.e)
		}
	}
}

func TestFaults(t *testing.T) { // the errors, from the left
	none := func(n int) api.Space { return api.Space{N: n, Basis: of(1, 1)} }
	bad := map[api.Errno]api.Space{api.ErrArg: none(-1), api.ErrTooBig: none(1001), api.ErrDen: {N: 2}, api.ErrShape: {N: 1, Basis: of(1, 2, 1, 0)}, api.ErrSpace: {N: 2, Basis: of(1, 2, 2, 0)}}
	two, three := none(2), none(3)
	badVec := api.Vec{Den: api.Int{Neg: true, Mag: api.Nat{0}}}
	spaceOf := func(s api.Space, e api.Errno) (int, api.Errno) { return size(s), e }
	truth := func(x bool, e api.Errno) (int, api.Errno) { return map[bool]int{true: 1}[x], e }
	coordinates := func(v api.Vec, x bool, e api.Errno) (int, api.Errno) { return len(v.Num) + len(v.Den.Mag), e }
	for w, s := range bad {
		for what, f := range map[string]func() (int, api.Errno){
			"Dim":         func() (int, api.Errno) { return space.Dim(s) },
			"Has":         func() (int, api.Errno) { return truth(space.Has(s, badVec)) },
			"Coordinates": func() (int, api.Errno) { return coordinates(space.Coordinates(s, badVec)) },
			"Equal":       func() (int, api.Errno) { return truth(space.Equal(s, api.Space{})) },
			"Equal 2":     func() (int, api.Errno) { return truth(space.Equal(three, s)) },
			"Within":      func() (int, api.Errno) { return truth(space.Within(s, three)) },
			"Within 2":    func() (int, api.Errno) { return truth(space.Within(three, s)) },
			"Sum":         func() (int, api.Errno) { return spaceOf(space.Sum(s, three)) },
			"Sum 2":       func() (int, api.Errno) { return spaceOf(space.Sum(three, s)) },
			"Meet":        func() (int, api.Errno) { return spaceOf(space.Meet(s, three)) },
			"Meet 2":      func() (int, api.Errno) { return spaceOf(space.Meet(three, s)) },
			"Complement":  func() (int, api.Errno) { return spaceOf(space.Complement(s)) },
			"Under":       func() (int, api.Errno) { return spaceOf(space.Under(of(1, 3, 1, 2, 3), s)) },
			"Stays":       func() (int, api.Errno) { return truth(space.Stays(of(1, 3, 1, 2, 3), s)) },
		} {
			n, e := f()
			fault(t, what, e, w, n)
		}
	}
	for w, m := range map[api.Errno]api.Mat{api.ErrDen: {Num: [][]api.Int{{}, {{}}}}, api.ErrShape: {Den: zint.Of(1), Num: [][]api.Int{{}, {{}}}}} {
		for what, f := range map[string]func() (int, api.Errno){
			"Kernel": func() (int, api.Errno) { return spaceOf(space.Kernel(m)) },
			"Image":  func() (int, api.Errno) { return spaceOf(space.Image(m)) },
			"Under":  func() (int, api.Errno) { return spaceOf(space.Under(m, bad[api.ErrSpace])) },
			"Stays":  func() (int, api.Errno) { return truth(space.Stays(m, bad[api.ErrSpace])) },
		} {
			n, e := f()
			fault(t, what, e, w, n)
		}
	}
	for what, f := range map[string]func(a, b api.Space) (int, api.Errno){
		"Equal":  func(a, b api.Space) (int, api.Errno) { return truth(space.Equal(a, b)) },
		"Within": func(a, b api.Space) (int, api.Errno) { return truth(space.Within(a, b)) },
		"Sum":    func(a, b api.Space) (int, api.Errno) { return spaceOf(space.Sum(a, b)) },
		"Meet":   func(a, b api.Space) (int, api.Errno) { return spaceOf(space.Meet(a, b)) },
	} {
		n, e := f(two, three)
		fault(t, what, e, api.ErrShape, n)
	}
	vectors := map[string]func(n int, l ...api.Vec) (int, api.Errno){
		"Span": func(n int, l ...api.Vec) (int, api.Errno) { return spaceOf(space.Span(n, l...)) },
		"Independent": func(n int, l ...api.Vec) (int, api.Errno) {
			k, ok, e := space.Independent(n, l...)
			m, _ := truth(ok, e)
			return k + m, e
		},
	}
	for what, f := range vectors {
		n, e := f(-1, badVec)
		fault(t, what, e, api.ErrArg, n)
		n, e = f(1001, badVec)
		fault(t, what, e, api.ErrTooBig, n)
		n, e = f(2, vec(1, 1), badVec)
		fault(t, what, e, api.ErrDen, n)
		n, e = f(2, vec(1, 1, 2), vec(1, 1))
		fault(t, what, e, api.ErrShape, n)
	}
	for what, f := range map[string]func(v api.Vec) (int, api.Errno){
		"Has":         func(v api.Vec) (int, api.Errno) { return truth(space.Has(two, v)) },
		"Coordinates": func(v api.Vec) (int, api.Errno) { return coordinates(space.Coordinates(two, v)) },
	} {
		n, e := f(badVec)
		fault(t, what, e, api.ErrDen, n)
		n, e = f(vec(1, 1))
		fault(t, what, e, api.ErrShape, n)
	}
	s, e := space.Under(of(1, 3, 1, 2, 3), two)
	fault(t, "Under", e, api.ErrShape, size(s))
	for _, m := range []api.Mat{of(1, 1), of(1, 2, 1, 2), of(1, 3, 1, 2, 3)} {
		stays, e := space.Stays(m, two)
		if fault(t, "Stays", e, api.ErrNotSquare); stays {
			t.Error("Stays beside an error")
		}
	}
	_, e = space.Stays(of(1, 1, 1), two)
	fault(t, "Stays", e, api.ErrShape)
}

func TestWide(t *testing.T) { // MaxWide
	tall := api.Mat{Den: zint.Of(1), Num: make([][]api.Int, 1001)}
	for i := range tall.Num {
		tall.Num[i] = []api.Int{zint.Of(1)}
	}
	wide, _ := qmat.Transpose(tall)
	line := api.Space{N: 1, Basis: of(1, 1, 1)}
	s, e := space.Kernel(wide)
	fault(t, "Kernel of 1001 columns", e, api.ErrTooBig, size(s))
	s, e = space.Image(tall)
	fault(t, "Image of 1001 rows", e, api.ErrTooBig, size(s))
	s, e = space.Under(tall, line)
	fault(t, "Under 1001 rows", e, api.ErrTooBig, size(s))
	s, e = space.Under(tall, api.Space{N: 2, Basis: of(1, 1)})
	fault(t, "Under 1001 rows", e, api.ErrShape, size(s))
	tall.Num = tall.Num[:1000]
	s, e = space.Image(tall)
	if e != api.OK || s.N != 1000 || len(s.Basis.Num) != 1 {
		t.Errorf("Image of 1000 rows: %d", e)
	}
	s, e = space.Under(tall, line)
	if e != api.OK || s.N != 1000 || len(s.Basis.Num) != 1 {
		t.Errorf("Under 1000 rows: %d", e)
	}
	wide, _ = qmat.Transpose(tall)
	s, e = space.Kernel(wide)
	if d, _ := space.Dim(s); e != api.OK || d != 999 {
		t.Errorf("Kernel of 1000 columns: %d, %d", d, e)
	}
	all, e := space.Complement(api.Space{N: 1000, Basis: of(1, 1)})
	if d, _ := space.Dim(all); e != api.OK || d != 1000 {
		t.Errorf("Complement in 1000: %d, %d", d, e)
	}
	if same, e := space.Equal(all, all); !same || e != api.OK {
		t.Errorf("Equal of 1000: %d", e)
	}
}

func TestMemory(t *testing.T) { // R3: what is handed in stays, what is answered is new
	calls := map[string]func(m api.Mat, v api.Vec, a, b api.Space) []api.Mat{
		"Span": func(m api.Mat, v api.Vec, a, b api.Space) []api.Mat {
			x, _ := space.Span(3, v, v)
			return []api.Mat{x.Basis}
		},
		"Coordinates": func(m api.Mat, v api.Vec, a, b api.Space) []api.Mat {
			all, _ := space.Complement(api.Space{N: 3, Basis: of(1, 1)})
			x, _, _ := space.Coordinates(all, v)
			space.Has(a, v)
			space.Independent(3, v, v)
			return []api.Mat{{Den: x.Den, Num: [][]api.Int{x.Num}}}
		},
		"Sum": func(m api.Mat, v api.Vec, a, b api.Space) []api.Mat {
			x, _ := space.Sum(a, b)
			return []api.Mat{x.Basis}
		},
		"Meet": func(m api.Mat, v api.Vec, a, b api.Space) []api.Mat {
			x, _ := space.Meet(a, a)
			return []api.Mat{x.Basis}
		},
		"Complement": func(m api.Mat, v api.Vec, a, b api.Space) []api.Mat {
			x, _ := space.Complement(a)
			return []api.Mat{x.Basis}
		},
		"Kernel": func(m api.Mat, v api.Vec, a, b api.Space) []api.Mat {
			x, _ := space.Kernel(m)
			return []api.Mat{x.Basis}
		},
		"Image": func(m api.Mat, v api.Vec, a, b api.Space) []api.Mat {
			x, _ := space.Image(m)
			return []api.Mat{x.Basis}
		},
		"Under": func(m api.Mat, v api.Vec, a, b api.Space) []api.Mat {
			x, _ := space.Under(m, a)
			return []api.Mat{x.Basis}
		},
	}
	r := rand.New(rand.NewSource(5))
	for what, f := range calls {
		for range 25 {
			full := some(r, 4, 4)
			m := api.Mat{Den: full.Den, Num: append([][]api.Int{}, full.Num[0][:3], full.Num[1][:3], full.Num[2][:3])}
			v := api.Vec{Den: full.Den, Num: full.Num[3][:3]}
			_, a := subspace(t, r, 3)
			_, b := subspace(t, r, 3)
			kept := fmt.Sprint(full, a, b)
			first := fmt.Sprint(f(m, v, a, b))
			var parts []*api.Int
			for _, x := range f(m, v, a, b) {
				parts = append(parts, &x.Den)
				for _, row := range x.Num {
					for k := range row {
						parts = append(parts, &row[k])
					}
				}
			}
			for k, x := range parts {
				room := x.Mag[:cap(x.Mag)]
				for i := range room {
					room[i] = uint32(k) + 1000
				}
			}
			for k, x := range parts {
				for _, limb := range x.Mag {
					if limb != uint32(k)+1000 {
						t.Fatalf("%s: two lists of the answer share memory", what)
					}
				}
				*x = api.Int{}
			}
			if fmt.Sprint(full, a, b) != kept || fmt.Sprint(f(m, v, a, b)) != first {
				t.Errorf("%s changes what is handed in, or shares it", what)
			}
		}
	}
}
