package qmat_test

import (
	"fmt"
	"math"
	"math/big"
	"math/rand"
	"testing"

	"simile/api"
	"simile/qmat"
	"simile/rat"
	"simile/zint"
)

// sizes tells a number of rows and one of columns; of no rows it is 0.
func sizes(r *rand.Rand) (int, int) {
	n := r.Intn(5)
	if n == 0 {
		return 0, 0
	}
	return n, r.Intn(5)
}

func TestForms(t *testing.T) { // P11.1, P11.6
	r := rand.New(rand.NewSource(1))
	for range 300 {
		n, c := sizes(r)
		m := some(r, n, c)
		w := list(m)
		if e := qmat.Check(m); e != api.OK {
			t.Errorf("Check(%v): %d", m, e)
		}
		got, e := qmat.Norm(m)
		want(t, "Norm", got, e, w)
		rows, columns, e := qmat.Size(m)
		if rows != n || columns != c || e != api.OK {
			t.Errorf("Size of %d times %d: %d, %d, %d", n, c, rows, columns, e)
		}
		entries, e := qmat.Rows(m)
		if len(entries) != n {
			t.Fatalf("Rows of %d: %d", n, len(entries))
		}
		height := 0
		for i := range n {
			if len(entries[i]) != c {
				t.Fatalf("Rows of %d: %d", c, len(entries[i]))
			}
			for k := range c {
				wantRat(t, "Rows", entries[i][k], e, w.rows[i][k])
				x, e := qmat.At(m, i, k)
				wantRat(t, "At", x, e, w.rows[i][k])
				height = max(height, w.rows[i][k].Num().BitLen(), w.rows[i][k].Denom().BitLen())
			}
		}
		if h, e := qmat.Height(m); h != height || e != api.OK {
			t.Errorf("Height(%v): %d, want %d", m, h, height)
		}
		got, e = qmat.From(entries...)
		want(t, "From of Rows", got, e, w)
		if same, e := qmat.Equal(m, got); !same || e != api.OK {
			t.Errorf("Equal(%v, its Norm)", m)
		}
		if n*c > 0 {
			other, _ := qmat.Norm(m)
			i, k := r.Intn(n), r.Intn(c)
			other.Num[i][k] = zint.Add(other.Num[i][k], zint.Of(1))
			if same, e := qmat.Equal(m, other); same || e != api.OK {
				t.Errorf("Equal(%v, %v)", m, other)
			}
		}
		columnsOf, e := qmat.Columns(m)
		if len(columnsOf) != c || e != api.OK {
			t.Fatalf("Columns of %d: %d, %d", c, len(columnsOf), e)
		}
		for k, v := range columnsOf {
			wantVec(t, "Columns", v, api.OK, turned(w).rows[k])
		}
		if got, e = qmat.FromColumns(n, columnsOf...); n > 0 {
			want(t, "FromColumns of Columns", got, e, w)
		}
	}
}

func TestExamples(t *testing.T) {
	got, e := qmat.Norm(of(-2, 2, 2, 4))
	want(t, "Norm", got, e, list(of(1, 2, -1, -2)))
	got, e = qmat.Norm(of(6, 2, 0, 0))
	want(t, "Norm of 0", got, e, list(of(1, 2, 0, 0)))
	got, e = qmat.Mul(of(1, 2, 1, 2), of(1, 1, 3, 4))
	want(t, "Mul", got, e, list(of(1, 1, 11)))
	got, e = qmat.Mul(hollow(2), hollow(0))
	want(t, "Mul of nothing", got, e, list(hollow(2)))
	got, e = qmat.Blocks(of(1, 1, 1), of(1, 1, 2))
	want(t, "Blocks", got, e, list(of(1, 2, 1, 0, 0, 2)))
	if h, e := qmat.Height(api.Mat{Den: zint.Of(3), Num: [][]api.Int{{zint.Of(1), zint.Of(-24)}}}); h != 4 || e != api.OK {
		t.Errorf("Height of 1/3, -8: %d, %d", h, e)
	}
	if h, e := qmat.Height(hollow(0)); h != 0 || e != api.OK {
		t.Errorf("Height of nothing: %d, %d", h, e)
	}
	if h, _ := qmat.Height(of(7, 1, 0)); h != 1 {
		t.Errorf("Height of 0: %d", h)
	}
}

func TestReckoning(t *testing.T) { // P11.2, P11.3, P11.4, P11.5
	r := rand.New(rand.NewSource(2))
	for range 200 {
		n, c := sizes(r)
		d := r.Intn(4)
		if c == 0 {
			d = 0
		}
		a, a2, b, x := some(r, n, c), some(r, n, c), some(r, c, d), someRat(r)
		la, lb := list(a), list(b)
		q := broken(x.Num, x.Den)
		got, e := qmat.Add(a, a2)
		want(t, "Add", got, e, made(n, c, func(i, k int) *big.Rat { return new(big.Rat).Add(la.rows[i][k], list(a2).rows[i][k]) }))
		got, e = qmat.Sub(a, a2)
		want(t, "Sub", got, e, made(n, c, func(i, k int) *big.Rat { return new(big.Rat).Sub(la.rows[i][k], list(a2).rows[i][k]) }))
		got, e = qmat.Scale(a, x)
		want(t, "Scale", got, e, made(n, c, func(i, k int) *big.Rat { return new(big.Rat).Mul(la.rows[i][k], q) }))
		got, e = qmat.Transpose(a)
		want(t, "Transpose", got, e, turned(la))
		got, e = qmat.Mul(a, b)
		want(t, "Mul", got, e, product(la, lb))
		flat, e := qmat.Flat(a)
		var w []*big.Rat
		for _, row := range la.rows {
			w = append(w, row...)
		}
		wantVec(t, "Flat", flat, e, w)
		v := someVec(r, c)
		applied, e := qmat.Apply(a, v)
		w = nil
		for _, row := range product(la, turned(listVec(v))).rows {
			if c > 0 {
				w = append(w, row[0])
			}
		}
		if c == 0 {
			w = make([]*big.Rat, n)
			for i := range w {
				w[i] = new(big.Rat)
			}
		}
		wantVec(t, "Apply", applied, e, w)
		u := someVec(r, c)
		sum, e := qmat.VecAdd(u, v, x)
		w = nil
		for k := range c {
			w = append(w, new(big.Rat).Add(listVec(u).rows[0][k], new(big.Rat).Mul(listVec(v).rows[0][k], q)))
		}
		wantVec(t, "VecAdd", sum, e, w)
		norm, e := qmat.VecNorm(v)
		wantVec(t, "VecNorm", norm, e, listVec(v).rows[0])
		if same, e := qmat.VecEqual(v, norm); !same || e != api.OK {
			t.Errorf("VecEqual(%v, its VecNorm)", v)
		}
		if same, e := qmat.VecEqual(u, v); same != (fmt.Sprint(listVec(u).rows) == fmt.Sprint(listVec(v).rows)) || e != api.OK {
			t.Errorf("VecEqual(%v, %v): %t", u, v, same)
		}
	}
}

func TestParts(t *testing.T) { // P11.3, P11.7
	r := rand.New(rand.NewSource(3))
	for range 150 {
		n, c := sizes(r)
		n2, c2 := sizes(r)
		a, b, b2 := some(r, n, c), some(r, n2, c2), some(r, r.Intn(4), c)
		la, lb := list(a), list(b)
		zero := new(big.Rat)
		got, e := qmat.Blocks(a, b)
		want(t, "Blocks", got, e, made(n+n2, c+c2, func(i, k int) *big.Rat {
			switch {
			case i < n && k < c:
				return la.rows[i][k]
			case i >= n && k >= c:
				return lb.rows[i-n][k-c]
			}
			return zero
		}))
		got, e = qmat.Stack(a, b2)
		w := table{append(append([][]*big.Rat{}, la.rows...), list(b2).rows...), c}
		if n == 0 {
			w = list(b2)
		}
		if n > 0 || c == 0 {
			want(t, "Stack", got, e, w)
		}
		got, e = qmat.Kronecker(a, b)
		want(t, "Kronecker", got, e, made(n*n2, c*c2, func(i, k int) *big.Rat { return new(big.Rat).Mul(la.rows[i/n2][k/c2], lb.rows[i%n2][k%c2]) }))
		r1, r2, k1, k2 := r.Intn(7)-1, r.Intn(7)-1, r.Intn(7)-1, r.Intn(7)-1
		got, e = qmat.Cut(a, r1, r2, k1, k2)
		if r1 < 0 || r1 > r2 || r2 > n || k1 < 0 || k1 > k2 || k2 > c {
			fault(t, "Cut", e, api.ErrArg, size(got))
		} else {
			want(t, "Cut", got, e, made(r2-r1, k2-k1, func(i, k int) *big.Rat { return la.rows[r1+i][k1+k] }))
		}
	}
	for range 30 {
		k := func() int { return r.Intn(3) + 1 }
		x, y, z, u, v, w := k(), k(), k(), k(), k(), k()
		a, b, c, d := some(r, x, y), some(r, u, v), some(r, y, z), some(r, v, w)
		ab, _ := qmat.Kronecker(a, b)
		cd, _ := qmat.Kronecker(c, d)
		ac, _ := qmat.Mul(a, c)
		bd, _ := qmat.Mul(b, d)
		left, _ := qmat.Mul(ab, cd)
		right, e := qmat.Kronecker(ac, bd)
		want(t, "Kronecker of products", right, e, list(left))
	}
	got, e := qmat.Blocks()
	want(t, "Blocks()", got, e, table{})
	got, e = qmat.Blocks(hollow(2), of(1, 1, 5))
	want(t, "Blocks with rows of nothing", got, e, list(of(1, 1, 0, 0, 5)))
}

func TestSquares(t *testing.T) { // P11.2, P11.5, P11.7
	r := rand.New(rand.NewSource(4))
	for range 80 {
		n := r.Intn(3) + 1
		m, b := some(r, n, n), some(r, n, n)
		w := new(big.Rat)
		id := made(n, n, func(i, k int) *big.Rat { return big.NewRat(int64(max(0, 1-max(i-k, k-i))), 1) })
		for i := range n {
			w.Add(w, list(m).rows[i][i])
		}
		tr, e := qmat.Trace(m)
		wantRat(t, "Trace", tr, e, w)
		got, e := qmat.Identity(n)
		want(t, "Identity", got, e, id)
		j, k := r.Intn(5), r.Intn(5)
		power := id
		for range k {
			power = product(power, list(m))
		}
		got, e = qmat.Pow(m, k)
		want(t, "Pow", got, e, power)
		more, _ := qmat.Pow(m, j)
		all, _ := qmat.Pow(m, j+k)
		got, e = qmat.Mul(more, got)
		want(t, "Pow times Pow", got, e, list(all))
		ab, _ := qmat.Mul(m, b)
		ba, _ := qmat.Mul(b, m)
		x, _ := qmat.Trace(ab)
		y, e := qmat.Trace(ba)
		wantRat(t, "Trace(b a)", y, e, broken(x.Num, x.Den))
	}
	got, e := qmat.Pow(of(1, 2, 1, 1, 0, 1), 1000)
	want(t, "Pow to 1000", got, e, list(of(1, 2, 1, 1000, 0, 1)))
}

func TestLimits(t *testing.T) { // P11.2, P11.3, P11.4
	square := of(1, 1, 2)
	for _, k := range []int{-1, math.MinInt} {
		got, e := qmat.Identity(k)
		fault(t, "Identity", e, api.ErrArg, size(got))
		got, e = qmat.Pow(square, k)
		fault(t, "Pow", e, api.ErrArg, size(got))
		got, e = qmat.Zero(k, 2000)
		fault(t, "Zero", e, api.ErrArg, size(got))
		got, e = qmat.Zero(2000, k)
		fault(t, "Zero", e, api.ErrArg, size(got))
		got, e = qmat.FromColumns(k, vec(1, 1))
		fault(t, "FromColumns", e, api.ErrArg, size(got))
		x, e := qmat.At(square, k, 0)
		fault(t, "At", e, api.ErrArg, len(x.Den.Mag))
		x, e = qmat.At(square, 0, k)
		fault(t, "At", e, api.ErrArg, len(x.Den.Mag))
	}
	for _, k := range []int{1001, math.MaxInt} {
		got, e := qmat.Identity(k)
		fault(t, "Identity", e, api.ErrTooBig, size(got))
		got, e = qmat.Pow(square, k)
		fault(t, "Pow", e, api.ErrTooBig, size(got))
		got, e = qmat.Zero(k, 0)
		fault(t, "Zero", e, api.ErrTooBig, size(got))
		got, e = qmat.Zero(0, k)
		fault(t, "Zero", e, api.ErrTooBig, size(got))
		got, e = qmat.FromColumns(k, vec(1, 1))
		fault(t, "FromColumns", e, api.ErrTooBig, size(got))
		x, e := qmat.At(square, k, 0)
		fault(t, "At", e, api.ErrArg, len(x.Den.Mag))
	}
	for _, p := range [][2]int{{1, 0}, {0, 1}} {
		x, e := qmat.At(square, p[0], p[1])
		fault(t, "At past the end", e, api.ErrArg, len(x.Den.Mag))
	}
	if m, e := qmat.Identity(1000); e != api.OK || len(m.Num) != 1000 || len(m.Num[999][999].Mag) != 1 {
		t.Errorf("Identity(1000): %d", e)
	}
	got, e := qmat.Identity(0)
	want(t, "Identity(0)", got, e, table{})
	got, e = qmat.Zero(0, 7)
	want(t, "Zero(0, 7)", got, e, table{})
	got, e = qmat.Zero(2, 0)
	want(t, "Zero(2, 0)", got, e, list(hollow(2)))
	got, e = qmat.Zero(2, 3)
	want(t, "Zero(2, 3)", got, e, list(of(1, 3, 0, 0, 0, 0, 0, 0)))
	wide, _ := qmat.Zero(1, 500)
	tall, _ := qmat.Zero(500, 1)
	if m, e := qmat.Kronecker(wide, of(1, 2, 1, 2)); e != api.OK || len(m.Num[0]) != 1000 {
		t.Errorf("Kronecker of 1000 columns: %d", e)
	}
	got, e = qmat.Kronecker(wide, of(1, 3, 1, 2, 3))
	fault(t, "Kronecker of 1500 columns", e, api.ErrTooBig, size(got))
	got, e = qmat.Kronecker(tall, of(1, 1, 1, 2, 3))
	fault(t, "Kronecker of 1500 rows", e, api.ErrTooBig, size(got))
	got, e = qmat.FromColumns(2)
	want(t, "FromColumns of none", got, e, list(hollow(2)))
	got, e = qmat.FromColumns(0, vec(1), vec(2))
	want(t, "FromColumns of empty ones", got, e, table{})
	got, e = qmat.FromColumns(1, vec(2, 4), vec(3, 1))
	want(t, "FromColumns", got, e, list(of(3, 2, 6, 1)))
}

func TestShapes(t *testing.T) { // the errors of sizes
	a, b, row := of(1, 2, 1, 2, 3, 4), of(1, 1, 1), of(1, 2, 1, 2)
	for what, call := range map[string]func(x, y api.Mat) (api.Mat, api.Errno){"Add": qmat.Add, "Sub": qmat.Sub, "Mul": qmat.Mul, "Stack": qmat.Stack} {
		got, e := call(a, b)
		fault(t, what, e, api.ErrShape, size(got))
	}
	for what, call := range map[string]func(x, y api.Mat) (api.Mat, api.Errno){"Add": qmat.Add, "Sub": qmat.Sub} {
		for _, pair := range [][2]api.Mat{{a, row}, {row, a}, {hollow(2), hollow(1)}, {hollow(0), hollow(1)}, {row, of(1, 1, 1)}} {
			got, e := call(pair[0], pair[1])
			fault(t, what, e, api.ErrShape, size(got))
		}
	}
	got, e := qmat.Mul(hollow(0), row)
	fault(t, "Mul of nothing and a row", e, api.ErrShape, size(got))
	got, e = qmat.Stack(hollow(1), b)
	fault(t, "Stack of a row of nothing", e, api.ErrShape, size(got))
	got, e = qmat.Stack(hollow(0), row)
	want(t, "Stack of no rows", got, e, list(row))
	got, e = qmat.Stack(row, hollow(0))
	want(t, "Stack on no rows", got, e, list(row))
	got, e = qmat.Stack(hollow(0), hollow(0))
	want(t, "Stack of no rows on none", got, e, table{})
	for _, m := range []api.Mat{row, hollow(0), hollow(1), of(1, 1, 1, 2)} {
		x, e := qmat.Trace(m)
		fault(t, "Trace", e, api.ErrNotSquare, len(x.Den.Mag))
		got, e := qmat.Pow(m, -1)
		fault(t, "Pow", e, api.ErrNotSquare, size(got))
	}
	v, e := qmat.VecAdd(vec(1, 1), vec(1, 1, 2), rat.Of(0))
	fault(t, "VecAdd", e, api.ErrShape, sizeVec(v))
	v, e = qmat.Apply(a, vec(1, 1))
	fault(t, "Apply", e, api.ErrShape, sizeVec(v))
	v, e = qmat.Apply(hollow(0), vec(1, 1))
	fault(t, "Apply of nothing", e, api.ErrShape, sizeVec(v))
	got, e = qmat.FromColumns(2, vec(1, 1, 2), vec(1, 1))
	fault(t, "FromColumns", e, api.ErrShape, size(got))
	for _, pair := range [][2]api.Mat{{a, row}, {hollow(1), hollow(2)}, {hollow(1), hollow(0)}, {of(1, 1, 1, 2), row}} {
		if same, e := qmat.Equal(pair[0], pair[1]); same || e != api.OK {
			t.Errorf("Equal(%v, %v): %t, %d", pair[0], pair[1], same, e)
		}
	}
	if same, _ := qmat.VecEqual(vec(1), vec(1, 0)); same {
		t.Error("VecEqual of unlike lengths")
	}
	got, e = qmat.From([]api.Rat{rat.Of(1)}, nil)
	fault(t, "From", e, api.ErrShape, size(got))
	got, e = qmat.From(nil, []api.Rat{rat.Of(1)}, []api.Rat{{}})
	fault(t, "From", e, api.ErrDen, size(got))
	got, e = qmat.From()
	want(t, "From()", got, e, table{})
	got, e = qmat.From(nil, nil)
	want(t, "From of rows of nothing", got, e, list(hollow(2)))
	flat, e := qmat.Flat(hollow(3))
	wantVec(t, "Flat of nothing", flat, e, nil)
	none, e := qmat.VecFrom()
	wantVec(t, "VecFrom()", none, e, nil)
	two, e := qmat.VecFrom(api.Rat{Num: zint.Of(1), Den: zint.Of(-2)}, rat.Of(3))
	wantVec(t, "VecFrom", two, e, []*big.Rat{big.NewRat(-1, 2), big.NewRat(3, 1)})
	two, e = qmat.VecFrom(rat.Of(3), api.Rat{Num: zint.Of(1)})
	fault(t, "VecFrom", e, api.ErrDen, sizeVec(two))
}

func TestFaults(t *testing.T) { // ErrDen, ErrShape of the arguments from the left, ahead of all else
	nothing, ragged := api.Mat{Num: [][]api.Int{{{}}, {}}}, api.Mat{Den: zint.Of(2), Num: [][]api.Int{{{}}, {}}}
	bad := map[api.Errno]api.Mat{api.ErrDen: nothing, api.ErrShape: ragged}
	ok := of(1, 2, 1, 2)
	badVec := api.Vec{Den: api.Int{Neg: true, Mag: api.Nat{0}}}
	mat := func(m api.Mat, e api.Errno) (int, api.Errno) { return size(m), e }
	vector := func(v api.Vec, e api.Errno) (int, api.Errno) { return sizeVec(v), e }
	number := func(x api.Rat, e api.Errno) (int, api.Errno) { return len(x.Den.Mag), e }
	truth := func(x bool, e api.Errno) (int, api.Errno) { return map[bool]int{true: 1}[x], e }
	for w, m := range bad {
		for what, call := range map[string]func() (int, api.Errno){
			"Check":       func() (int, api.Errno) { return 0, qmat.Check(m) },
			"Norm":        func() (int, api.Errno) { return mat(qmat.Norm(m)) },
			"Rows":        func() (int, api.Errno) { x, e := qmat.Rows(m); return len(x), e },
			"Size":        func() (int, api.Errno) { x, y, e := qmat.Size(m); return x + y, e },
			"At":          func() (int, api.Errno) { return number(qmat.At(m, -1, 0)) },
			"Equal":       func() (int, api.Errno) { return truth(qmat.Equal(m, ok)) },
			"Equal 2":     func() (int, api.Errno) { return truth(qmat.Equal(ok, m)) },
			"Height":      func() (int, api.Errno) { return qmat.Height(m) },
			"Add":         func() (int, api.Errno) { return mat(qmat.Add(m, ok)) },
			"Add 2":       func() (int, api.Errno) { return mat(qmat.Add(ok, m)) },
			"Sub":         func() (int, api.Errno) { return mat(qmat.Sub(m, ok)) },
			"Sub 2":       func() (int, api.Errno) { return mat(qmat.Sub(ok, m)) },
			"Mul":         func() (int, api.Errno) { return mat(qmat.Mul(m, ok)) },
			"Mul 2":       func() (int, api.Errno) { return mat(qmat.Mul(ok, m)) },
			"Scale":       func() (int, api.Errno) { return mat(qmat.Scale(m, rat.Of(1))) },
			"Transpose":   func() (int, api.Errno) { return mat(qmat.Transpose(m)) },
			"Trace":       func() (int, api.Errno) { return number(qmat.Trace(m)) },
			"Pow":         func() (int, api.Errno) { return mat(qmat.Pow(m, -1)) },
			"Blocks":      func() (int, api.Errno) { return mat(qmat.Blocks(ok, ok, m)) },
			"Stack":       func() (int, api.Errno) { return mat(qmat.Stack(m, ok)) },
			"Stack 2":     func() (int, api.Errno) { return mat(qmat.Stack(ok, m)) },
			"Cut":         func() (int, api.Errno) { return mat(qmat.Cut(m, -1, 0, 0, 0)) },
			"Kronecker":   func() (int, api.Errno) { return mat(qmat.Kronecker(m, ok)) },
			"Kronecker 2": func() (int, api.Errno) { return mat(qmat.Kronecker(ok, m)) },
			"Flat":        func() (int, api.Errno) { return vector(qmat.Flat(m)) },
			"Columns":     func() (int, api.Errno) { x, e := qmat.Columns(m); return len(x), e },
			"Apply":       func() (int, api.Errno) { return vector(qmat.Apply(m, badVec)) },
		} {
			n, e := call()
			fault(t, what, e, w, n)
		}
	}
	for what, call := range map[string]func() (int, api.Errno){
		"Scale":       func() (int, api.Errno) { return mat(qmat.Scale(ok, api.Rat{})) },
		"VecNorm":     func() (int, api.Errno) { return vector(qmat.VecNorm(badVec)) },
		"VecEqual":    func() (int, api.Errno) { return truth(qmat.VecEqual(vec(1, 1), badVec)) },
		"VecAdd":      func() (int, api.Errno) { return vector(qmat.VecAdd(badVec, vec(1, 1), rat.Of(1))) },
		"VecAdd 2":    func() (int, api.Errno) { return vector(qmat.VecAdd(vec(1, 1), badVec, rat.Of(1))) },
		"VecAdd 3":    func() (int, api.Errno) { return vector(qmat.VecAdd(vec(1, 1), vec(1), api.Rat{})) },
		"Apply":       func() (int, api.Errno) { return vector(qmat.Apply(ok, badVec)) },
		"FromColumns": func() (int, api.Errno) { return mat(qmat.FromColumns(-1, vec(1, 1), badVec)) },
	} {
		n, e := call()
		fault(t, what, e, api.ErrDen, n)
	}
	x, e := qmat.Scale(ragged, api.Rat{})
	fault(t, "Scale of ragged rows by 1/0", e, api.ErrShape, size(x))
	x, e = qmat.Add(ragged, nothing)
	fault(t, "Add of ragged rows and nothing", e, api.ErrShape, size(x))
}

func TestLaws(t *testing.T) { // P11.5
	r := rand.New(rand.NewSource(5))
	mul := func(a, b api.Mat) api.Mat { x, _ := qmat.Mul(a, b); return x }
	turn := func(a api.Mat) api.Mat { x, _ := qmat.Transpose(a); return x }
	for range 60 {
		n, k, l, m := r.Intn(3)+1, r.Intn(3)+1, r.Intn(3)+1, r.Intn(3)+1
		a, b, b2, c := some(r, n, k), some(r, k, l), some(r, k, l), some(r, l, m)
		want(t, "(a b) c", mul(mul(a, b), c), api.OK, list(mul(a, mul(b, c))))
		sum, _ := qmat.Add(b, b2)
		right, _ := qmat.Add(mul(a, b), mul(a, b2))
		want(t, "a (b + b2)", mul(a, sum), api.OK, list(right))
		want(t, "Transpose of a product", turn(mul(a, b)), api.OK, list(mul(turn(b), turn(a))))
	}
}

func TestMemory(t *testing.T) { // R3: what is handed in stays, what is answered is new
	vecOf := func(v api.Vec) api.Mat { return api.Mat{Den: v.Den, Num: [][]api.Int{v.Num}} }
	two := func(f func(a, b api.Mat) (api.Mat, api.Errno)) func(a, b api.Mat) []api.Mat {
		return func(a, b api.Mat) []api.Mat { x, _ := f(a, b); return []api.Mat{x} }
	}
	calls := map[string]func(a, b api.Mat) []api.Mat{
		"Add": two(qmat.Add), "Sub": two(qmat.Sub), "Mul": two(qmat.Mul), "Stack": two(qmat.Stack), "Kronecker": two(qmat.Kronecker),
		"Stack on none": two(func(a, b api.Mat) (api.Mat, api.Errno) { return qmat.Stack(a, hollow(0)) }),
		"Norm":          two(func(a, b api.Mat) (api.Mat, api.Errno) { return qmat.Norm(a) }),
		"Scale":         two(func(a, b api.Mat) (api.Mat, api.Errno) { return qmat.Scale(a, rat.Of(1)) }),
		"Transpose":     two(func(a, b api.Mat) (api.Mat, api.Errno) { return qmat.Transpose(a) }),
		"Pow":           two(func(a, b api.Mat) (api.Mat, api.Errno) { return qmat.Pow(a, 1) }),
		"Blocks":        two(func(a, b api.Mat) (api.Mat, api.Errno) { return qmat.Blocks(a, b, a) }),
		"Cut":           two(func(a, b api.Mat) (api.Mat, api.Errno) { return qmat.Cut(a, 0, 2, 0, 2) }),
		"Identity":      two(func(a, b api.Mat) (api.Mat, api.Errno) { return qmat.Identity(3) }),
		"Flat":          func(a, b api.Mat) []api.Mat { x, _ := qmat.Flat(a); return []api.Mat{vecOf(x)} },
		"VecNorm": func(a, b api.Mat) []api.Mat {
			x, _ := qmat.VecNorm(api.Vec{Den: a.Den, Num: a.Num[0]})
			return []api.Mat{vecOf(x)}
		},
		"VecAdd": func(a, b api.Mat) []api.Mat {
			x, _ := qmat.VecAdd(api.Vec{Den: a.Den, Num: a.Num[0]}, api.Vec{Den: b.Den, Num: b.Num[0]}, rat.Of(0))
			return []api.Mat{vecOf(x)}
		},
		"Apply": func(a, b api.Mat) []api.Mat {
			x, _ := qmat.Apply(a, api.Vec{Den: b.Den, Num: b.Num[0]})
			return []api.Mat{vecOf(x)}
		},
		"Columns": func(a, b api.Mat) []api.Mat {
			l, _ := qmat.Columns(a)
			x, _ := qmat.FromColumns(3, l...)
			out := []api.Mat{x}
			for _, v := range l {
				out = append(out, vecOf(v))
			}
			return out
		},
		"Rows": func(a, b api.Mat) []api.Mat {
			l, _ := qmat.Rows(a)
			x, _ := qmat.From(l...)
			v, _ := qmat.VecFrom(l[0]...)
			at, _ := qmat.At(a, 1, 1)
			tr, _ := qmat.Trace(a)
			out := []api.Mat{x, vecOf(v), {Den: at.Den, Num: [][]api.Int{{at.Num, tr.Num, tr.Den}}}}
			for _, row := range l {
				for _, q := range row {
					out = append(out, api.Mat{Den: q.Den, Num: [][]api.Int{{q.Num}}})
				}
			}
			return out
		},
	}
	r := rand.New(rand.NewSource(6))
	for what, call := range calls {
		for range 15 {
			full := []api.Mat{some(r, 4, 4), some(r, 4, 4)}
			if r.Intn(2) == 0 {
				full[0].Den = zint.Of(1)
			}
			kept := fmt.Sprint(full)
			in := make([]api.Mat, 2)
			for j, m := range full {
				in[j] = api.Mat{Den: m.Den, Num: append([][]api.Int{}, m.Num[0][:3], m.Num[1][:3], m.Num[2][:3])}
			}
			first := fmt.Sprint(call(in[0], in[1]))
			var parts []*api.Int
			for _, m := range call(in[0], in[1]) {
				parts = append(parts, &m.Den)
				for _, row := range m.Num {
					for k := range row {
						parts = append(parts, &row[k])
					}
				}
			}
			for k, x := range parts {
				room := x.Mag[:cap(x.Mag)]
				for i := range room {
					room[i] = uint32(k) + 1000
				}
			}
			for k, x := range parts {
				for _, limb := range x.Mag {
					if limb != uint32(k)+1000 {
						t.Fatalf("%s: two lists of the answer share memory", what)
					}
				}
			}
			for _, x := range parts {
				*x = api.Int{}
			}
			if fmt.Sprint(full) != kept || fmt.Sprint(call(in[0], in[1])) != first {
				t.Errorf("%s changes what is handed in, or shares it", what)
			}
		}
	}
}
