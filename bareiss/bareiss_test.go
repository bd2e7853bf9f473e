package bareiss_test

import (
	"fmt"
	"math"
	"math/big"
	"math/rand"
	"slices"
	"testing"

	"simile/api"
	"simile/bareiss"
	"simile/qmat"
	"simile/rat"
	"simile/zint"
)

// fractionFree is the form just as the chapter says it.
func fractionFree(m api.Mat) ([][]*big.Int, int) {
	n, _ := qmat.Norm(m)
	var a [][]*big.Int
	for _, row := range n.Num {
		var l []*big.Int
		for _, x := range row {
			l = append(l, large(x))
		}
		a = append(a, l)
	}
	k, last, exchanges := 0, big.NewInt(1), 0
	for c := 0; k < len(a) && c < len(a[0]); c++ {
		p := k
		for p < len(a) && a[p][c].Sign() == 0 {
			p++
		}
		if p == len(a) {
			continue
		}
		if p != k {
			a[p], a[k] = a[k], a[p]
			exchanges++
		}
		for i := k + 1; i < len(a); i++ {
			there := a[i][c]
			var row []*big.Int
			for j := range a[i] {
				x := new(big.Int).Mul(a[i][j], a[k][c])
				x.Sub(x, new(big.Int).Mul(a[k][j], there))
				row = append(row, x.Quo(x, last))
			}
			a[i] = row
		}
		last = a[k][c]
		k++
	}
	return a, exchanges
}

func TestEchelon(t *testing.T) { // P12.1, P12.9
	r := rand.New(rand.NewSource(1))
	for range 400 {
		n, c := sizes(r)
		m := some(r, n, c)
		got, exchanges, e := bareiss.Echelon(m)
		w, wExchanges := fractionFree(m)
		ok := e == api.OK && exchanges == wExchanges && len(got) == n
		for i := 0; ok && i < n; i++ {
			ok = len(got[i]) == c
			for k := 0; ok && k < c; k++ {
				ok = large(got[i][k]).Cmp(w[i][k]) == 0 && normalInt(got[i][k])
			}
		}
		if !ok {
			t.Fatalf("Echelon(%v): %v, %d, %d, want %v, %d", m, got, exchanges, e, w, wExchanges)
		}
		if norm, _ := qmat.Norm(m); n == c && n > 0 {
			det := minor(list(api.Mat{Den: zint.Of(1), Num: norm.Num}))
			if last := w[n-1][n-1]; det.Sign() != 0 && new(big.Rat).Abs(det).Cmp(new(big.Rat).SetInt(new(big.Int).Abs(last))) != 0 {
				t.Errorf("Echelon(%v) ends with %v, the determinant is %v", m, last, det)
			}
		}
	}
	for text, m := range map[string]api.Mat{"[[1 2] [0 -2]] 0": of(1, 2, 1, 2, 3, 4), "[[2 3] [0 2]] 1": of(1, 2, 0, 1, 2, 3), "[[1 2] [0 0]] 0": of(4, 2, 2, 4, 4, 8)} {
		got, exchanges, _ := bareiss.Echelon(m)
		var rows [][]*big.Int
		for _, row := range got {
			rows = append(rows, []*big.Int{large(row[0]), large(row[1])})
		}
		if s := fmt.Sprint(rows, exchanges); s != text {
			t.Errorf("Echelon(%v): %s, want %s", m, s, text)
		}
	}
}

func TestReduce(t *testing.T) { // P12.2, P12.3, P12.4, P12.7, P12.13
	r := rand.New(rand.NewSource(2))
	for range 400 {
		n, c := sizes(r)
		m := some(r, n, c)
		w, pivots := reduced(list(m))
		got, p, e := bareiss.Reduce(m)
		want(t, "Reduce", got, e, w)
		if !slices.Equal(p, pivots) {
			t.Errorf("Reduce(%v): pivots %v, want %v", m, p, pivots)
		}
		if rank, e := bareiss.Rank(m); rank != len(pivots) || e != api.OK {
			t.Errorf("Rank(%v): %d, want %d", m, rank, len(pivots))
		}
		other, _ := qmat.Transpose(m)
		if rank, _ := bareiss.Rank(other); rank != len(pivots) {
			t.Errorf("Rank of the transpose of %v: %d", m, rank)
		}
		kernel, e := bareiss.Kernel(m)
		if len(kernel) != c-len(pivots) || e != api.OK {
			t.Fatalf("Kernel(%v): %v, %d", m, kernel, e)
		}
		at := 0
		for k := range c {
			if slices.Contains(pivots, k) {
				continue
			}
			x := make([]*big.Rat, c)
			for j := range x {
				x[j] = new(big.Rat)
			}
			x[k].SetInt64(1)
			for i, pivot := range pivots {
				x[pivot].Neg(w[i][k])
			}
			wantVec(t, "Kernel", kernel[at], e, x)
			at++
		}
		solve(t, r, m, w, pivots)
	}
}

// solve holds Solve against the reduced echelon form of both.
func solve(t *testing.T, r *rand.Rand, m api.Mat, form table, pivots []int) {
	t.Helper()
	n := len(m.Num)
	side := some(r, 1, n)
	b := api.Vec{Den: side.Den, Num: side.Num[0]}
	c := 0
	if n > 0 {
		c = len(m.Num[0])
	}
	if r.Intn(2) == 0 {
		x := some(r, 1, c)
		b, _ = qmat.Apply(m, api.Vec{Den: x.Den, Num: x.Num[0]})
	}
	wide := list(m)
	for i := range wide {
		wide[i] = append(wide[i], listVec(b)[i])
	}
	both, all := reduced(wide)
	x, ok, e := bareiss.Solve(m, b)
	if e != api.OK || ok != (len(all) == len(pivots)) {
		t.Fatalf("Solve(%v, %v): %v, %t, %d", m, b, x, ok, e)
	}
	if !ok {
		fault(t, "Solve", e, api.OK, len(x.Num), len(x.Den.Mag))
		return
	}
	w := make([]*big.Rat, c)
	for k := range w {
		w[k] = new(big.Rat)
	}
	for i, pivot := range pivots {
		w[pivot] = both[i][c]
	}
	wantVec(t, "Solve", x, e, w)
}

func TestSquares(t *testing.T) { // P12.2, P12.5, P12.8, P12.10, P12.11, P12.12
	r := rand.New(rand.NewSource(3))
	for range 300 {
		n := r.Intn(5) + 1
		m, b := some(r, n, n), some(r, n, n)
		l := list(m)
		w := minor(l)
		det, e := bareiss.Det(m)
		wantRat(t, "Det", det, e, w)
		other, _ := qmat.Transpose(m)
		det, e = bareiss.Det(other)
		wantRat(t, "Det of the transpose", det, e, w)
		mb, _ := qmat.Mul(m, b)
		det, e = bareiss.Det(mb)
		wantRat(t, "Det of a product", det, e, new(big.Rat).Mul(w, minor(list(b))))
		adj := make(table, n)
		for i := range n {
			for k := range n {
				x := minor(without(l, k, i))
				if (i+k)%2 == 1 {
					x.Neg(x)
				}
				adj[i] = append(adj[i], x)
			}
		}
		got, e := bareiss.Adjugate(m)
		want(t, "Adjugate", got, e, adj)
		inverse, e := bareiss.Inverse(m)
		if w.Sign() == 0 {
			fault(t, "Inverse", e, api.ErrSingular, len(inverse.Num), len(inverse.Den.Mag))
		} else {
			for i := range adj {
				for k := range adj {
					adj[i][k] = new(big.Rat).Quo(adj[i][k], w)
				}
			}
			want(t, "Inverse", inverse, e, adj)
		}
		v := api.Vec{Den: b.Den, Num: b.Num[0]}
		dets, d, e := bareiss.Cramer(m, v)
		wantRat(t, "Cramer's last", d, e, w)
		x, _, _ := bareiss.Solve(m, v)
		for k := range n {
			put := make(table, n)
			for i := range l {
				put[i] = slices.Clone(l[i])
				put[i][k] = listVec(v)[i]
			}
			wantRat(t, "Cramer", dets[k], e, minor(put))
			if w.Sign() != 0 {
				quo, _ := rat.Quo(dets[k], d)
				wantRat(t, "Cramer's solution", quo, e, listVec(x)[k])
			}
		}
	}
}

func TestMinor(t *testing.T) { // P12.6, P12.13
	r := rand.New(rand.NewSource(4))
	for range 300 {
		n, c := sizes(r)
		m := some(r, n, c)
		pick := func(n int) []int {
			var out []int
			for i := range n {
				if r.Intn(2) == 0 {
					out = append(out, i)
				}
			}
			return out
		}
		rows, cols := pick(n), pick(c)
		k := min(len(rows), len(cols))
		rows, cols = rows[:k], cols[:k]
		part := make(table, k)
		for i, a := range rows {
			for _, b := range cols {
				part[i] = append(part[i], list(m)[a][b])
			}
		}
		got, e := bareiss.Minor(m, rows, cols)
		w := minor(part)
		wantRat(t, "Minor", got, e, w)
		if rank, _ := bareiss.Rank(m); w.Sign() != 0 && k > rank {
			t.Errorf("a minor of %d rows of %v, whose rank is %d", k, m, rank)
		}
	}
	m := of(1, 2, 1, 2, 3, 4)
	got, e := bareiss.Minor(m, []int{0}, []int{1})
	wantRat(t, "Minor", got, e, big.NewRat(2, 1))
	got, e = bareiss.Minor(hollow(0), nil, nil)
	wantRat(t, "Minor of none", got, e, big.NewRat(1, 1))
	for _, c := range [][2][]int{{{0}, nil}, {{0}, {0, 1}}, {{-1}, {0}}, {{0}, {-1}}, {{2}, {0}}, {{0}, {2}}, {{1, 0}, {0, 1}}, {{0, 0}, {0, 1}}, {{0, 1}, {1, 1}}, {{0, 1}, {1, 0}}, {{math.MinInt}, {0}}, {{0}, {math.MaxInt}}} {
		got, e := bareiss.Minor(m, c[0], c[1])
		fault(t, "Minor", e, api.ErrArg, len(got.Den.Mag))
	}
	got, e = bareiss.Minor(api.Mat{}, []int{7}, nil)
	fault(t, "Minor of nothing", e, api.ErrDen, len(got.Den.Mag))
}

func TestExamples(t *testing.T) {
	det, e := bareiss.Det(of(2, 2, 1, 2, 2, 8))
	wantRat(t, "Det", det, e, big.NewRat(1, 1))
	got, p, e := bareiss.Reduce(of(1, 3, 2, 4, 6))
	want(t, "Reduce", got, e, list(of(1, 3, 1, 2, 3)))
	if !slices.Equal(p, []int{0}) {
		t.Errorf("pivots %v", p)
	}
	x, ok, e := bareiss.Solve(of(1, 2, 1, 1), vec(1, 3))
	if wantVec(t, "Solve", x, e, listVec(vec(1, 3, 0))); !ok {
		t.Error("Solve([1 1], [3])")
	}
	got, e = bareiss.Inverse(of(2, 2, 1, 0, 0, 6))
	want(t, "Inverse", got, e, list(of(3, 2, 6, 0, 0, 1)))
	got, e = bareiss.Adjugate(of(1, 2, 1, 2, 3, 4))
	want(t, "Adjugate", got, e, list(of(1, 2, 4, -2, -3, 1)))
	for _, n := range []int64{5, 0} {
		got, e = bareiss.Adjugate(of(3, 1, n))
		want(t, "Adjugate of one number", got, e, list(of(1, 1, 1)))
	}
	got, e = bareiss.Adjugate(of(1, 3, 1, 2, 3, 2, 4, 6, 3, 6, 9))
	want(t, "Adjugate of rank 1", got, e, list(of(1, 3, 0, 0, 0, 0, 0, 0, 0, 0, 0)))
	l, d, e := bareiss.Cramer(of(1, 2, 2, 0, 0, 4), vec(1, 2, 4))
	wantRat(t, "Cramer", l[0], e, big.NewRat(8, 1))
	wantRat(t, "Cramer", l[1], e, big.NewRat(8, 1))
	wantRat(t, "Cramer", d, e, big.NewRat(8, 1))
}

func TestEdges(t *testing.T) { // no rows, and rows of nothing
	for _, n := range []int{0, 3} {
		m := hollow(n)
		rows, exchanges, e := bareiss.Echelon(m)
		if len(rows) != n || exchanges != 0 || e != api.OK {
			t.Errorf("Echelon of %d rows of nothing: %v, %d", n, rows, e)
		}
		got, p, e := bareiss.Reduce(m)
		want(t, "Reduce", got, e, list(m))
		rank, e2 := bareiss.Rank(m)
		l, e3 := bareiss.Kernel(m)
		fault(t, "Rank, Kernel", max(e2, e3), api.OK, len(p), rank, len(l))
		x, ok, e := bareiss.Solve(m, vec(-2, make([]int64, n)...))
		if wantVec(t, "Solve", x, e, nil); !ok {
			t.Errorf("Solve of %d rows of nothing", n)
		}
	}
	x, ok, e := bareiss.Solve(hollow(2), vec(1, 0, 1))
	if fault(t, "Solve", e, api.OK, len(x.Num), len(x.Den.Mag)); ok {
		t.Error("Solve of rows of nothing")
	}
	big1 := of(1, 1, 0)
	big1.Num = nil
	for i := range 40 {
		row := make([]api.Int, 40)
		for k := range row {
			row[k] = zint.Of(int64((i*i + 3*k*k + i*k + 7) % 11))
		}
		big1.Num = append(big1.Num, row)
	}
	det, _ := bareiss.Det(big1)
	adj, _ := bareiss.Adjugate(big1)
	got, e := qmat.Mul(big1, adj)
	id, _ := qmat.Identity(40)
	w, _ := qmat.Scale(id, det)
	want(t, "40 rows times their adjugate", got, e, list(w))
}

func TestFaults(t *testing.T) { // the errors, in their order
	nothing, ragged := api.Mat{Num: [][]api.Int{{{}}, {}}}, api.Mat{Den: zint.Of(2), Num: [][]api.Int{{{}}, {}}}
	badVec := api.Vec{Den: api.Int{Neg: true, Mag: api.Nat{0}}}
	type call = func(m api.Mat) (int, api.Errno)
	any1 := map[string]call{
		"Echelon": func(m api.Mat) (int, api.Errno) { x, n, e := bareiss.Echelon(m); return len(x) + n, e },
		"Rank":    bareiss.Rank,
		"Reduce": func(m api.Mat) (int, api.Errno) {
			x, p, e := bareiss.Reduce(m)
			return len(x.Num) + len(x.Den.Mag) + len(p), e
		},
		"Kernel": func(m api.Mat) (int, api.Errno) { x, e := bareiss.Kernel(m); return len(x), e },
		"Solve": func(m api.Mat) (int, api.Errno) {
			x, _, e := bareiss.Solve(m, badVec)
			return len(x.Num) + len(x.Den.Mag), e
		},
		"Minor": func(m api.Mat) (int, api.Errno) { x, e := bareiss.Minor(m, []int{9}, nil); return len(x.Den.Mag), e },
	}
	squares := map[string]call{
		"Det":      func(m api.Mat) (int, api.Errno) { x, e := bareiss.Det(m); return len(x.Den.Mag), e },
		"Inverse":  func(m api.Mat) (int, api.Errno) { x, e := bareiss.Inverse(m); return len(x.Num) + len(x.Den.Mag), e },
		"Adjugate": func(m api.Mat) (int, api.Errno) { x, e := bareiss.Adjugate(m); return len(x.Num) + len(x.Den.Mag), e },
		"Cramer": func(m api.Mat) (int, api.Errno) {
			x, d, e := bareiss.Cramer(m, vec(1, 1, 2, 3))
			return len(x) + len(d.Den.Mag), e
		},
	}
	for _, set := range []map[string]call{any1, squares} {
		for what, f := range set {
			n, e := f(nothing)
			fault(t, what, e, api.ErrDen, n)
			n, e = f(ragged)
			fault(t, what, e, api.ErrShape, n)
		}
	}
	for what, f := range squares {
		for _, m := range []api.Mat{hollow(0), hollow(1), of(1, 2, 1, 2), of(1, 1, 1, 2)} {
			n, e := f(m)
			fault(t, what, e, api.ErrNotSquare, n)
		}
	}
	x, _, e := bareiss.Solve(of(1, 1, 1), badVec)
	fault(t, "Solve", e, api.ErrDen, len(x.Den.Mag))
	x, _, e = bareiss.Solve(of(1, 1, 1), vec(1, 1, 2))
	fault(t, "Solve", e, api.ErrShape, len(x.Den.Mag))
	x, _, e = bareiss.Solve(hollow(0), vec(1, 1))
	fault(t, "Solve", e, api.ErrShape, len(x.Den.Mag))
	l, d, e := bareiss.Cramer(of(1, 2, 1, 2), badVec)
	fault(t, "Cramer", e, api.ErrDen, len(l), len(d.Den.Mag))
	l, d, e = bareiss.Cramer(of(1, 1, 1), vec(1, 1, 2))
	fault(t, "Cramer", e, api.ErrShape, len(l), len(d.Den.Mag))
}

func TestMemory(t *testing.T) { // R3: what is handed in stays, what is answered is new
	vecs := func(l ...api.Vec) []api.Mat {
		var out []api.Mat
		for _, v := range l {
			out = append(out, api.Mat{Den: v.Den, Num: [][]api.Int{v.Num}})
		}
		return out
	}
	calls := map[string]func(m api.Mat, v api.Vec) []api.Mat{
		"Echelon":  func(m api.Mat, v api.Vec) []api.Mat { x, _, _ := bareiss.Echelon(m); return []api.Mat{{Num: x}} },
		"Reduce":   func(m api.Mat, v api.Vec) []api.Mat { x, _, _ := bareiss.Reduce(m); return []api.Mat{x} },
		"Solve":    func(m api.Mat, v api.Vec) []api.Mat { x, _, _ := bareiss.Solve(m, v); return vecs(x) },
		"Inverse":  func(m api.Mat, v api.Vec) []api.Mat { x, _ := bareiss.Inverse(m); return []api.Mat{x} },
		"Adjugate": func(m api.Mat, v api.Vec) []api.Mat { x, _ := bareiss.Adjugate(m); return []api.Mat{x} },
		"Kernel":   func(m api.Mat, v api.Vec) []api.Mat { x, _ := bareiss.Kernel(m); return vecs(x...) },
		"numbers": func(m api.Mat, v api.Vec) []api.Mat {
			x, _ := bareiss.Det(m)
			y, _ := bareiss.Minor(m, []int{0, 1}, []int{1, 2})
			l, z, _ := bareiss.Cramer(m, v)
			out := []api.Mat{{Den: x.Den, Num: [][]api.Int{{x.Num, y.Num, y.Den, z.Num, z.Den}}}}
			for _, q := range l {
				out = append(out, api.Mat{Den: q.Den, Num: [][]api.Int{{q.Num}}})
			}
			return out
		},
	}
	r := rand.New(rand.NewSource(5))
	for what, f := range calls {
		for range 25 {
			full := some(r, 4, 4)
			kept := fmt.Sprint(full)
			m := api.Mat{Den: full.Den, Num: append([][]api.Int{}, full.Num[0][:3], full.Num[1][:3], full.Num[2][:3])}
			v := api.Vec{Den: full.Den, Num: full.Num[3][:3]}
			first := fmt.Sprint(f(m, v))
			var parts []*api.Int
			for _, x := range f(m, v) {
				parts = append(parts, &x.Den)
				for _, row := range x.Num {
					for k := range row {
						parts = append(parts, &row[k])
					}
				}
			}
			for k, x := range parts {
				room := x.Mag[:cap(x.Mag)]
				for i := range room {
					room[i] = uint32(k) + 1000
				}
			}
			for k, x := range parts {
				for _, limb := range x.Mag {
					if limb != uint32(k)+1000 {
						t.Fatalf("%s: two lists of the answer share memory", what)
					}
				}
				*x = api.Int{}
			}
			if fmt.Sprint(full) != kept || fmt.Sprint(f(m, v)) != first {
				t.Errorf("%s changes what is handed in, or shares it", what)
			}
		}
	}
}
