package evalm_test

import (
	"fmt"
	"math"
	"math/big"
	"math/rand"
	"testing"

	"simile/api"
	"simile/evalm"
	"simile/qpoly"
	"simile/space"
	"simile/zint"
)

func TestAt(t *testing.T) { // P14.1, P14.2, P14.8, P14.9
	r := rand.New(rand.NewSource(1))
	for range 150 {
		n := r.Intn(4) + 1
		m, v, f, g := some(r, n, n), someVec(r, n), somePoly(r, 4), somePoly(r, 4)
		w := at(listPoly(f), list(m))
		got, e := evalm.At(f, m)
		wantMat(t, "At", got, e, w)
		applied := turned(times(w, turned(table{listVec(v)})))[0]
		on, e := evalm.On(f, m, v)
		wantVec(t, "On", on, e, applied)
		kills, e := evalm.Kills(f, m)
		if kills != isZero(w) || e != api.OK {
			t.Errorf("Kills(%v, %v): %t, %d", f, m, kills, e)
		}
		killsVec, e := evalm.KillsVec(f, m, v)
		if killsVec != isZero(table{applied}) || e != api.OK {
			t.Errorf("KillsVec(%v, %v, %v): %t, %d", f, m, v, killsVec, e)
		}
		sum, _ := qpoly.Add(f, g)
		product, _ := qpoly.Mul(f, g)
		wg := at(listPoly(g), list(m))
		got, e = evalm.At(sum, m)
		wantMat(t, "At of a sum", got, e, plus(w, wg, big.NewRat(1, 1)))
		got, e = evalm.At(product, m)
		wantMat(t, "At of a product", got, e, times(w, wg))
		wantMat(t, "they commute", got, e, times(wg, w))
		var annihilator api.Poly
		for _, c := range charOf(list(m)) {
			annihilator = append(annihilator, fraction(c))
		}
		if kills, e := evalm.Kills(annihilator, m); !kills || e != api.OK {
			t.Errorf("Kills of the characteristic polynomial of %v: %t, %d", m, kills, e)
		}
		if kills, e := evalm.KillsVec(annihilator, m, v); !kills || e != api.OK {
			t.Errorf("KillsVec of the characteristic polynomial of %v: %t, %d", m, kills, e)
		}
	}
}

// fraction: of small numbers.
func fraction(c *big.Rat) api.Rat { return ratio(c.Num().Int64(), c.Denom().Int64()) }

func TestExamples(t *testing.T) {
	swap, m := of(1, 2, 0, 1, 1, 0), of(1, 2, 1, 2, 3, 4)
	got, e := evalm.At(coeffs(-1, 0, 1), swap)
	wantMat(t, "At(x^2 - 1)", got, e, list(of(1, 2, 0, 0, 0, 0)))
	if kills, e := evalm.Kills(coeffs(-1, 0, 1), swap); !kills || e != api.OK {
		t.Error("Kills(x^2 - 1)")
	}
	got, e = evalm.At(coeffs(5), m)
	wantMat(t, "At(5)", got, e, list(of(1, 2, 5, 0, 0, 5)))
	got, e = evalm.At(nil, m)
	wantMat(t, "At(0)", got, e, list(of(1, 2, 0, 0, 0, 0)))
	got, e = evalm.At(coeffs(0, 1), m)
	wantMat(t, "At(x)", got, e, list(m))
	got, e = evalm.At(coeffs(1), m)
	wantMat(t, "At(1)", got, e, unit(2))
	v, e := evalm.On(coeffs(0, 1), m, vec(1, 1, 0))
	wantVec(t, "On(x)", v, e, listVec(vec(1, 1, 3)))
	if kills, e := evalm.KillsVec(coeffs(-1, 1), of(1, 2, 1, 0, 0, 2), vec(1, 1, 0)); !kills || e != api.OK {
		t.Error("KillsVec(x - 1)")
	}
	s, e := evalm.Kernel(coeffs(-1, 1), of(1, 2, 1, 0, 0, 2))
	if s.N != 2 || !sameRows(s.Basis.Den, s.Basis.Num, list(of(1, 2, 1, 0))) || e != api.OK {
		t.Errorf("Kernel(x - 1): %v, %d", s, e)
	}
	tr, e := evalm.Traces(m, 2)
	wantPoly(t, "Traces", tr, e, listPoly(coeffs(5, 29)))
	got, e = evalm.Bracket(of(1, 2, 0, 1, 0, 0), of(1, 2, 0, 0, 1, 0))
	wantMat(t, "Bracket", got, e, list(of(1, 2, 1, 0, 0, -1)))
}

func TestKernels(t *testing.T) { // P14.3, P14.10
	r := rand.New(rand.NewSource(2))
	for range 100 {
		n := r.Intn(4) + 1
		m, f, g := some(r, n, n), somePoly(r, 3), somePoly(r, 3)
		w := at(listPoly(f), list(m))
		kernel, e := evalm.Kernel(f, m)
		image, e2 := evalm.Image(f, m)
		columns := reduced(turned(w))
		if e != api.OK || e2 != api.OK || space.Check(kernel) != api.OK || !sameRows(image.Basis.Den, image.Basis.Num, columns) || image.N != n || kernel.N != n || len(kernel.Basis.Num)+len(columns) != n {
			t.Fatalf("Kernel, Image(%v, %v): %v, %v", f, m, kernel, image)
		}
		for _, row := range list(kernel.Basis) {
			if !isZero(times(w, turned(table{row}))) {
				t.Errorf("Kernel(%v, %v): %v", f, m, kernel)
			}
		}
		for _, s := range []api.Space{kernel, image} {
			if stays, e := space.Stays(m, s); !stays || e != api.OK {
				t.Errorf("%v does not stay under %v", s, m)
			}
		}
		fg, _ := qpoly.Mul(f, g)
		both, _ := evalm.Kernel(fg, m)
		if in, _ := space.Within(kernel, both); !in {
			t.Errorf("the kernel of %v is not in that of %v", f, fg)
		}
		if common, _ := qpoly.Gcd(f, g); len(common) == 1 {
			other, _ := evalm.Kernel(g, m)
			meet, _ := space.Meet(kernel, other)
			sum, _ := space.Sum(kernel, other)
			if same, _ := space.Equal(sum, both); !same || len(meet.Basis.Num) > 0 {
				t.Errorf("the kernels of %v and %v under %v", f, g, m)
			}
		}
	}
}

func TestPowers(t *testing.T) { // P14.4, P14.5, R3
	r := rand.New(rand.NewSource(3))
	for range 60 {
		n, k := r.Intn(4)+1, r.Intn(6)
		m := some(r, n, n)
		seq, e := evalm.Powers(m, k)
		w := unit(n)
		var traces poly
		count := 0
		for x := range seq {
			wantMat(t, "Powers", x, e, w)
			for i := range x.Num {
				x.Num[i] = nil
			}
			if count++; count > 1 {
				sum := new(big.Rat)
				for i := range n {
					sum.Add(sum, w[i][i])
				}
				traces = append(traces, sum)
			}
			w = times(w, list(m))
		}
		if count != k+1 {
			t.Errorf("Powers up to %d: %d", k, count)
		}
		got, e := evalm.Traces(m, k)
		if len(got) != k || e != api.OK {
			t.Fatalf("Traces up to %d: %v", k, got)
		}
		for i, x := range got {
			wantRat(t, "Traces", x, e, traces[i])
		}
	}
	m := of(1, 2, 1, 1, 0, 1)
	seq, _ := evalm.Powers(m, 2)
	m.Num[0][1] = zint.Of(7)
	m.Num[1][0].Mag = append(m.Num[1][0].Mag, 5)
	text := ""
	for x := range seq {
		for y := range seq {
			text += fmt.Sprint(len(y.Num[0][1].Mag))
			break
		}
		text += fmt.Sprint(large(x.Num[0][1]), " ")
	}
	if text != "00 01 02 " {
		t.Errorf("Powers nested: %s", text)
	}
	for _, k := range []int{-1, 101, math.MinInt, math.MaxInt} {
		seq, e := evalm.Powers(m, k)
		if fault(t, "Powers", e, api.ErrArg); seq != nil {
			t.Error("Powers beside an error")
		}
		l, e := evalm.Traces(m, k)
		fault(t, "Traces", e, api.ErrArg, l)
	}
	if l, e := evalm.Traces(of(1, 1, 1), 100); len(l) != 100 || e != api.OK {
		t.Errorf("Traces up to 100: %d, %d", len(l), e)
	}
}

func TestCombine(t *testing.T) { // P14.6
	r := rand.New(rand.NewSource(4))
	for range 100 {
		n, c := r.Intn(4)+1, r.Intn(4)
		var l []api.Mat
		var k []api.Rat
		w := make(table, n)
		for i := range w {
			for range c {
				w[i] = append(w[i], new(big.Rat))
			}
		}
		for range r.Intn(4) + 1 {
			l = append(l, some(r, n, c))
			k = append(k, api.Rat{Num: someInt(r), Den: someDen(r)})
			w = plus(w, list(l[len(l)-1]), broken(k[len(k)-1].Num, k[len(k)-1].Den))
		}
		got, e := evalm.Combine(k, l...)
		for i := range w {
			if w[i] == nil {
				w[i] = []*big.Rat{}
			}
		}
		wantMat(t, "Combine", got, e, w)
	}
	m, bad, ragged := of(1, 1, 1), api.Mat{}, api.Mat{Den: zint.Of(1), Num: [][]api.Int{{}, {{}}}}
	one := []api.Rat{ratio(1, 1)}
	for _, c := range []struct {
		c []api.Rat
		l []api.Mat
		e api.Errno
	}{
		{nil, nil, api.ErrShape}, {one, nil, api.ErrShape}, {nil, []api.Mat{m}, api.ErrShape}, {one, []api.Mat{m, m}, api.ErrShape}, {append(one, ratio(1, 0)), []api.Mat{bad}, api.ErrDen},
		{[]api.Rat{ratio(1, 0)}, []api.Mat{ragged}, api.ErrDen}, {one, []api.Mat{ragged, bad}, api.ErrShape}, {one, []api.Mat{m, bad, ragged}, api.ErrDen}, {append(one, one...), []api.Mat{m, of(1, 2, 1, 2)}, api.ErrShape},
		{append(one, one...), []api.Mat{m, of(1, 1, 1, 2)}, api.ErrShape}, {append(one, one...), []api.Mat{m, of(1, 1)}, api.ErrShape},
	} {
		got, e := evalm.Combine(c.c, c.l...)
		fault(t, fmt.Sprint("Combine ", c), e, c.e, got)
	}
	wide := api.Mat{Den: zint.Of(1), Num: [][]api.Int{make([]api.Int, 30), make([]api.Int, 30)}}
	wide.Num[0][0] = bits(5000)
	if got, e := evalm.Combine([]api.Rat{ratio(2, 1)}, wide); e != api.OK || len(got.Num) != 2 {
		t.Errorf("Combine of 30 columns and 5001 bits: %d", e)
	}
}

func TestBracket(t *testing.T) { // P14.7, P14.11
	r := rand.New(rand.NewSource(5))
	for range 60 {
		n := r.Intn(4) + 1
		a, b, f := some(r, n, n), some(r, n, n), somePoly(r, 4)
		got, e := evalm.Bracket(a, b)
		wantMat(t, "Bracket", got, e, plus(times(list(a), list(b)), times(list(b), list(a)), big.NewRat(-1, 1)))
		fa, _ := evalm.At(f, a)
		got, e = evalm.Bracket(fa, a)
		wantMat(t, "Bracket of a polynomial", got, e, plus(list(a), list(a), big.NewRat(-1, 1)))
		// the traces stay under a change of basis: here by [1 c; 0 1] and its like
		s, back := unit(n), unit(n)
		s[0][n-1].Add(s[0][n-1], big.NewRat(3, 1))
		back[0][n-1].Sub(back[0][n-1], big.NewRat(3, 1))
		if n == 1 {
			s[0][0], back[0][0] = big.NewRat(4, 1), big.NewRat(1, 4)
		}
		other := times(back, times(list(a), s))
		c := api.Mat{Den: zint.Of(60)}
		for _, row := range other {
			var l []api.Int
			for _, x := range row {
				l = append(l, zint.Of(new(big.Rat).Mul(x, big.NewRat(60, 1)).Num().Int64()))
			}
			c.Num = append(c.Num, l)
		}
		x, _ := evalm.Traces(a, n)
		y, e := evalm.Traces(c, n)
		for i := range x {
			wantRat(t, "Traces of what is similar", y[i], e, broken(x[i].Num, x[i].Den))
		}
	}
	got, e := evalm.Bracket(of(1, 1, 1), of(1, 2, 1, 2, 3, 4))
	fault(t, "Bracket", e, api.ErrShape, got)
}

// faults are matrices that are not fit.
func faults() map[string]struct {
	m api.Mat
	e api.Errno
} {
	type bad = struct {
		m api.Mat
		e api.Errno
	}
	wide := make([]int64, 25*25)
	wide[0] = 1
	ragged := api.Mat{Den: zint.Of(1), Num: [][]api.Int{{zint.Of(1)}, {}}}
	return map[string]bad{
		"nothing":     {api.Mat{}, api.ErrDen},
		"no den":      {api.Mat{Num: ragged.Num}, api.ErrDen},
		"ragged":      {ragged, api.ErrShape},
		"a row":       {of(1, 2, 1, 2), api.ErrNotSquare},
		"a column":    {of(1, 1, 1, 2), api.ErrNotSquare},
		"no rows":     {of(1, 1), api.ErrNotSquare},
		"hollow":      {api.Mat{Den: zint.Of(1), Num: [][]api.Int{{}}}, api.ErrNotSquare},
		"26 columns":  {of(1, 26, make([]int64, 26)...), api.ErrNotSquare},
		"25 rows":     {of(1, 25, wide...), api.ErrTooBig},
		"4097 bits":   {api.Mat{Den: zint.Of(3), Num: [][]api.Int{{bits(4096)}}}, api.ErrTooBig},
		"4097 under":  {api.Mat{Den: bits(4096), Num: [][]api.Int{{zint.Of(3)}}}, api.ErrTooBig},
		"4097 at end": {api.Mat{Den: zint.Of(1), Num: [][]api.Int{{{}, {}}, {{}, bits(4096)}}}, api.ErrTooBig},
	}
}

func TestFaults(t *testing.T) { // the faults of arguments, from the left
	good, one := of(1, 2, 1, 2, 3, 4), coeffs(1)
	calls := map[string]func(f api.Poly, m api.Mat, v api.Vec) (any, api.Errno){
		"At":       func(f api.Poly, m api.Mat, v api.Vec) (any, api.Errno) { x, e := evalm.At(f, m); return x, e },
		"On":       func(f api.Poly, m api.Mat, v api.Vec) (any, api.Errno) { x, e := evalm.On(f, m, v); return x, e },
		"Kills":    func(f api.Poly, m api.Mat, v api.Vec) (any, api.Errno) { x, e := evalm.Kills(f, m); return x, e },
		"KillsVec": func(f api.Poly, m api.Mat, v api.Vec) (any, api.Errno) { x, e := evalm.KillsVec(f, m, v); return x, e },
		"Kernel":   func(f api.Poly, m api.Mat, v api.Vec) (any, api.Errno) { x, e := evalm.Kernel(f, m); return x, e },
		"Image":    func(f api.Poly, m api.Mat, v api.Vec) (any, api.Errno) { x, e := evalm.Image(f, m); return x, e },
	}
	others := map[string]func(f api.Poly, m api.Mat, v api.Vec) (any, api.Errno){
		"Powers": func(f api.Poly, m api.Mat, v api.Vec) (any, api.Errno) {
			x, e := evalm.Powers(m, -1)
			return x != nil, e
		},
		"Traces": func(f api.Poly, m api.Mat, v api.Vec) (any, api.Errno) { x, e := evalm.Traces(m, -1); return x, e },
		"Bracket": func(f api.Poly, m api.Mat, v api.Vec) (any, api.Errno) {
			x, e := evalm.Bracket(m, api.Mat{})
			return x, e
		},
		"Bracket 2": func(f api.Poly, m api.Mat, v api.Vec) (any, api.Errno) { x, e := evalm.Bracket(good, m); return x, e },
	}
	for _, set := range []map[string]func(f api.Poly, m api.Mat, v api.Vec) (any, api.Errno){calls, others} {
		for what, call := range set {
			for name, c := range faults() {
				x, e := call(one, c.m, api.Vec{})
				fault(t, what+" of "+name, e, c.e, x)
			}
		}
	}
	long := make(api.Poly, 102)
	for i := range long {
		long[i] = api.Rat{Num: api.Int{Neg: true}, Den: zint.Of(7)}
	}
	long[101] = ratio(1, 1)
	for what, call := range calls {
		for _, c := range []struct {
			f api.Poly
			e api.Errno
		}{
			{api.Poly{{}}, api.ErrDen}, {append(coeffs(1), ratio(0, 0)), api.ErrDen}, {append(long[:102:102], ratio(0, 0)), api.ErrDen}, {long, api.ErrTooBig},
			{api.Poly{{Num: bits(4096), Den: zint.Of(1)}}, api.ErrTooBig}, {api.Poly{ratio(1, 1), {Num: zint.Of(1), Den: bits(4096)}}, api.ErrTooBig},
		} {
			x, e := call(c.f, api.Mat{}, api.Vec{})
			fault(t, what, e, c.e, x)
		}
	}
	for what, call := range map[string]func(f api.Poly, m api.Mat, v api.Vec) (any, api.Errno){"On": calls["On"], "KillsVec": calls["KillsVec"]} {
		for _, c := range []struct {
			v api.Vec
			e api.Errno
		}{
			{api.Vec{}, api.ErrDen}, {vec(0, 1), api.ErrDen}, {vec(1, 1), api.ErrShape}, {vec(1, 1, 2, 3), api.ErrShape}, {api.Vec{Den: zint.Of(1), Num: []api.Int{bits(4096), {}, {}}}, api.ErrShape},
			{api.Vec{Den: zint.Of(1), Num: []api.Int{{}, bits(4096)}}, api.ErrTooBig}, {api.Vec{Den: bits(4096), Num: []api.Int{{}, zint.Of(1)}}, api.ErrTooBig},
		} {
			x, e := call(one, good, c.v)
			fault(t, what, e, c.e, x)
		}
	}
}

func TestLimits(t *testing.T) { // what just fits: lowest terms count
	even := api.Mat{Den: bits(4096), Num: [][]api.Int{{bits(4097)}}}
	got, e := evalm.At(coeffs(0, 1), even)
	wantMat(t, "2^4097 over 2^4096", got, e, list(of(1, 1, 2)))
	got, e = evalm.At(coeffs(0, 1), api.Mat{Den: zint.Of(-1), Num: [][]api.Int{{bits(4095)}}})
	if e != api.OK {
		t.Errorf("At of 4096 bits: %d", e)
	}
	wide := make([]int64, 24*24)
	for i := range wide {
		wide[i] = int64(i % 7)
	}
	m := of(3, 24, wide...)
	got, e = evalm.At(coeffs(1, 0, 1), m)
	wantMat(t, "At of 24 rows", got, e, plus(times(list(m), list(m)), unit(24), big.NewRat(1, 1)))
	long := make(api.Poly, 150)
	for i := range long {
		long[i] = api.Rat{Num: api.Int{Neg: true, Mag: api.Nat{0}}, Den: bits(4097)}
	}
	long[100] = api.Rat{Num: bits(4200), Den: bits(4200)}
	got, e = evalm.At(long, of(1, 2, 1, 1, 0, 1))
	wantMat(t, "x^100", got, e, list(of(1, 2, 1, 100, 0, 1)))
	v, e := evalm.On(long, of(1, 1, 1), api.Vec{Den: bits(4200), Num: []api.Int{bits(4201)}})
	wantVec(t, "x^100 on 2", v, e, listVec(vec(1, 2)))
}

func TestMemory(t *testing.T) { // R3
	r := rand.New(rand.NewSource(6))
	for range 20 {
		m, b, v, f := some(r, 3, 3), some(r, 3, 3), someVec(r, 3), append(somePoly(r, 3), coeffs(1, 1)...)
		k := []api.Rat{ratio(1, 1), ratio(0, 1)}
		given := []any{m, b, v, f, k}
		for what, call := range map[string]func() []any{
			"At":      func() []any { x, _ := evalm.At(f, m); y, _ := evalm.At(coeffs(0, 1), m); return []any{x, y} },
			"On":      func() []any { x, _ := evalm.On(f, m, v); y, _ := evalm.On(coeffs(1), m, v); return []any{x, y} },
			"Kills":   func() []any { x, _ := evalm.Kills(f, m); y, _ := evalm.KillsVec(f, m, v); return []any{x, y} },
			"Kernel":  func() []any { x, _ := evalm.Kernel(f, m); y, _ := evalm.Image(f, m); return []any{x, y} },
			"Traces":  func() []any { x, _ := evalm.Traces(m, 3); return []any{x} },
			"Combine": func() []any { x, _ := evalm.Combine(k, m, b); return []any{x} },
			"Bracket": func() []any { x, _ := evalm.Bracket(m, b); return []any{x} },
			"Powers": func() []any {
				seq, _ := evalm.Powers(m, 3)
				var out []any
				for x := range seq {
					out = append(out, x)
				}
				return out
			},
		} {
			memory(t, what, given, call)
		}
	}
}
