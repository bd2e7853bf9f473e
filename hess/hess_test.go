package hess_test

import (
	"fmt"
	"math"
	"math/rand"
	"slices"
	"testing"

	"simile/api"
	"simile/hess"
	"simile/modmat"
	"simile/modpoly"
	"simile/zint"
)

const greatest = 4294967291

var primes = []uint32{2, 3, 5, 7, 101, 65537, greatest}

// some tells a square matrix in any form, often with many noughts.
func some(r *rand.Rand, n int, p uint32) api.ModMat {
	out := make(api.ModMat, n)
	kind := r.Intn(3)
	for i := range out {
		out[i] = make([]uint32, n)
		for k := range out[i] {
			switch {
			case kind == 0 && r.Intn(3) > 0:
				out[i][k] = p * uint32(r.Intn(2))
			case kind == 1:
				out[i][k] = math.MaxUint32 - uint32(r.Intn(3))
			default:
				out[i][k] = r.Uint32()
			}
		}
	}
	return out
}

func text(l ...any) string { return fmt.Sprint(l...) }

func same(t *testing.T, what string, got, want any) {
	t.Helper()
	if text(got) != text(want) {
		t.Errorf("%s: %v, want %v", what, got, want)
	}
}

// isHessenberg: noughts more than one row below the diagonal.
func isHessenberg(m api.ModMat, p uint32) bool {
	for i, row := range m {
		for k, x := range row {
			if i > k+1 && x%p != 0 {
				return false
			}
		}
	}
	return true
}

// charOf: the determinant of x I - m by its values, as far as there are enough places; else by all its minors.
func charOf(t *testing.T, m api.ModMat, p uint32) api.ModPoly {
	t.Helper()
	n := len(m)
	out := make(api.ModPoly, n+1)
	for set := range 1 << n {
		var places []int
		for i := range n {
			if set>>i&1 == 1 {
				places = append(places, i)
			}
		}
		part := make(api.ModMat, len(places))
		for i, a := range places {
			for _, b := range places {
				part[i] = append(part[i], m[a][b])
			}
		}
		det := uint32(1)
		if len(part) > 0 {
			var e api.Errno
			if det, e = modmat.Det(part, p); e != api.OK {
				t.Fatal(e)
			}
		}
		if len(part)%2 == 1 {
			det = (p - det) % p
		}
		out[n-len(part)] = uint32((uint64(out[n-len(part)]) + uint64(det)) % uint64(p))
	}
	return out
}

func TestReduceAndChar(t *testing.T) { // P21.1, P21.2, P21.3, P21.4
	r := rand.New(rand.NewSource(1))
	for _, p := range primes {
		for range 60 {
			n := r.Intn(6) + 1
			m := some(r, n, p)
			is, e := hess.Is(m, p)
			same(t, text("Is ", m, p), text(is, e), text(isHessenberg(m, p), api.OK))
			h, s, back, e := hess.Reduce(m, p)
			if e != api.OK || !isHessenberg(h, p) {
				t.Fatalf("Reduce(%v, %d): %v, %d", m, p, h, e)
			}
			if is, _ := hess.Is(h, p); !is {
				t.Errorf("Is of Reduce(%v, %d)", m, p)
			}
			id, _ := modmat.Identity(n, p)
			one, _ := modmat.Mul(s, back, p)
			same(t, "S R", one, id)
			x, _ := modmat.Mul(back, m, p)
			x, _ = modmat.Mul(x, s, p)
			same(t, "R m S", x, h)
			for _, part := range []api.ModMat{h, s, back} {
				for _, row := range part {
					if slices.ContainsFunc(row, func(x uint32) bool { return x >= p }) {
						t.Errorf("Reduce(%v, %d): %v", m, p, part)
					}
				}
			}
			f, e := hess.Char(m, p)
			same(t, text("Char ", m, p), text(f, e), text(charOf(t, m, p), api.OK))
			g, _ := hess.Char(h, p)
			same(t, "Char of H", g, f)
			trace, _ := modmat.Trace(m, p)
			det, _ := modmat.Det(m, p)
			if n%2 == 1 {
				det = (p - det) % p
			}
			if f[n-1] != (p-trace)%p || f[0] != det || f[n] != 1 || len(f) != n+1 {
				t.Errorf("Char(%v, %d): %v", m, p, f)
			}
		}
	}
}

func TestCompanion(t *testing.T) { // P21.5
	r := rand.New(rand.NewSource(2))
	for _, p := range primes {
		for range 20 {
			n := r.Intn(24) + 1
			f := make(api.ModPoly, n+1)
			m := make(api.ModMat, n)
			for i := range m {
				f[i] = r.Uint32() % p
				m[i] = make([]uint32, n)
				if i > 0 {
					m[i][i-1] = 1
				}
				m[i][n-1] = (m[i][n-1] + p - f[i]) % p
			}
			f[n] = 1
			got, e := hess.Char(m, p)
			same(t, "Char of a companion matrix", text(got, e), text(f, api.OK))
		}
	}
}

func TestLarge(t *testing.T) { // 24 rows: by a change of basis
	r := rand.New(rand.NewSource(3))
	m := some(r, 24, greatest)
	h, s, back, e := hess.Reduce(m, greatest)
	x, _ := modmat.Mul(m, s, greatest)
	y, _ := modmat.Mul(s, h, greatest)
	same(t, "m S is S H", text(x, e), text(y, api.OK))
	one, _ := modmat.Mul(back, s, greatest)
	id, _ := modmat.Identity(24, greatest)
	same(t, "R S", one, id)
	f, e := hess.Char(m, greatest)
	var at api.ModMat
	at, _ = modmat.Scale(id, 0, greatest)
	for i := len(f) - 1; i >= 0; i-- {
		at, _ = modmat.Mul(at, m, greatest)
		term, _ := modmat.Scale(id, f[i], greatest)
		at, _ = modmat.Add(at, term, greatest)
	}
	zero, _ := modmat.Scale(id, 0, greatest)
	same(t, "m in Char of m", text(at, e), text(zero, api.OK))
	if d, _ := modpoly.Degree(f, greatest); d != 24 {
		t.Errorf("Char of 24 rows has degree %d", d)
	}
}

func TestOf(t *testing.T) { // P21.1
	num := func(neg bool, limbs ...uint32) api.Int { return api.Int{Neg: neg, Mag: limbs} }
	m := [][]api.Int{{num(true, 1), num(false, 0, 1), num(true, 0)}, {num(true, 14, 0), num(false, 0, 0, 1), num(true, 6)}}
	same(t, "Of", text(hess.Of(m, 7)), text(api.ModMat{{6, 4, 0}, {0, 2, 1}}, api.OK))
	same(t, "Of no rows", text(hess.Of(nil, 7)), text(api.ModMat{}, api.OK))
	same(t, "Of rows of nothing", text(hess.Of([][]api.Int{{}, {}}, 7)), text(api.ModMat{{}, {}}, api.OK))
	wide := make([]api.Int, 25)
	same(t, "Of 25 columns", text(hess.Of([][]api.Int{wide}, 7)), text(api.ModMat{}, api.ErrTooBig))
	same(t, "Of 25 rows", text(hess.Of(make([][]api.Int, 25), 7)), text(api.ModMat{}, api.ErrTooBig))
	same(t, "Of 24 columns", text(hess.Of([][]api.Int{wide[:24]}, 7)), text(api.ModMat{make([]uint32, 24)}, api.OK))
	same(t, "Of ragged rows", text(hess.Of([][]api.Int{wide, {}}, 7)), text(api.ModMat{}, api.ErrShape))
	same(t, "Of modulo no prime", text(hess.Of([][]api.Int{wide, {}}, 9)), text(api.ModMat{}, api.ErrPrime))
}

func TestExamples(t *testing.T) {
	same(t, "Char", text(hess.Char(api.ModMat{{1, 2}, {3, 4}}, 7)), text(api.ModPoly{5, 2, 1}, api.OK))
	same(t, "Is", text(hess.Is(api.ModMat{{1, 2, 3}, {4, 5, 6}, {7, 8, 9}}, 7)), text(true, api.OK))
	same(t, "Is", text(hess.Is(api.ModMat{{1, 2, 3}, {4, 5, 6}, {7, 8, 9}}, 5)), text(false, api.OK))
	same(t, "Char", text(hess.Char(api.ModMat{{9}}, 7)), text(api.ModPoly{5, 1}, api.OK))
}

func TestFaults(t *testing.T) { // the errors, in their order
	ragged, big := api.ModMat{{1}, {}}, make(api.ModMat, 25)
	for i := range big {
		big[i] = make([]uint32, 25)
	}
	for what, call := range map[string]func(m api.ModMat, p uint32) string{
		"Is": func(m api.ModMat, p uint32) string { x, e := hess.Is(m, p); return text(x, int(e)) },
		"Reduce": func(m api.ModMat, p uint32) string {
			x, y, z, e := hess.Reduce(m, p)
			return text(len(x)+len(y)+len(z) > 0, int(e))
		},
		"Char": func(m api.ModMat, p uint32) string { x, e := hess.Char(m, p); return text(len(x) > 0, int(e)) },
	} {
		for _, p := range []uint32{0, 1, 4, math.MaxUint32} {
			same(t, what, call(ragged, p), "false 40")
		}
		for _, c := range []struct {
			m api.ModMat
			e string
		}{
			{ragged, "false 2"}, {api.ModMat{{}, {1}}, "false 2"}, {nil, "false 3"}, {api.ModMat{{}}, "false 3"}, {api.ModMat{{1, 2}}, "false 3"}, {api.ModMat{{1}, {2}}, "false 3"}, {big[:24], "false 3"}, {big, "false 4"},
		} {
			same(t, what, call(c.m, 7), c.e)
		}
	}
}

func TestMemory(t *testing.T) { // R3: what is handed in stays, what is answered is new
	r := rand.New(rand.NewSource(4))
	for range 20 {
		full := some(r, 5, 7)
		kept := text(full)
		m := make(api.ModMat, 4)
		for i := range m {
			m[i] = full[i][:4]
		}
		ints := [][]api.Int{{zint.Of(8), zint.Of(-1)}}
		for what, call := range map[string]func() []api.ModMat{
			"Reduce": func() []api.ModMat { x, y, z, _ := hess.Reduce(m, 7); return []api.ModMat{x, y, z} },
			"Char":   func() []api.ModMat { x, _ := hess.Char(m, 7); hess.Is(m, 7); return []api.ModMat{{x}} },
			"Of":     func() []api.ModMat { x, _ := hess.Of(ints, 7); return []api.ModMat{x} },
		} {
			first := text(call())
			mark := uint32(100)
			out := call()
			for _, x := range out {
				for i := range x {
					mark++
					room := x[i][:cap(x[i])]
					for k := range room {
						room[k] = mark
					}
				}
			}
			mark = 100
			for _, x := range out {
				for i := range x {
					mark++
					if slices.ContainsFunc(x[i], func(y uint32) bool { return y != mark }) {
						t.Errorf("%s: two lists of the answer share memory", what)
					}
				}
			}
			if text(full) != kept || text(call()) != first {
				t.Errorf("%s changes what is handed in, or shares it", what)
			}
		}
	}
}
