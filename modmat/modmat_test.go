package modmat_test

import (
	"fmt"
	"math"
	"math/rand"
	"slices"
	"testing"

	"simile/api"
	"simile/modmat"
)

const greatest = 4294967291

var primes = []uint32{2, 3, 5, 7, 101, 65537, greatest}

// some tells a matrix of a size, in any form, often of a low rank.
func some(r *rand.Rand, rows, columns int) api.ModMat {
	out := make(api.ModMat, rows)
	kind := r.Intn(3)
	for i := range out {
		out[i] = make([]uint32, columns)
		for k := range out[i] {
			switch {
			case kind == 0:
				out[i][k] = uint32(r.Intn(3))
			case kind == 1 && i > 0 && r.Intn(3) > 0:
				out[i][k] = out[0][k]
			case kind == 1:
				out[i][k] = math.MaxUint32 - uint32(r.Intn(3))
			default:
				out[i][k] = r.Uint32()
			}
		}
	}
	return out
}

func text(l ...any) string { return fmt.Sprint(l...) }

// reduced: its numbers below p.
func reduced(m api.ModMat, p uint32) api.ModMat {
	return entries(len(m), width(m), func(i, k int) uint64 { return uint64(m[i][k]) }, p)
}

func width(m api.ModMat) int {
	if len(m) == 0 {
		return 0
	}
	return len(m[0])
}

// entries: a matrix by its entries, taken modulo p.
func entries(rows, columns int, f func(i, k int) uint64, p uint32) api.ModMat {
	out := make(api.ModMat, rows)
	for i := range out {
		out[i] = make([]uint32, columns)
		for k := range out[i] {
			out[i][k] = uint32(f(i, k) % uint64(p))
		}
	}
	return out
}

func product(a, b api.ModMat, p uint32) api.ModMat {
	return entries(len(a), width(b), func(i, k int) uint64 {
		sum := uint64(0)
		for j := range b {
			sum = (sum + uint64(a[i][j])*uint64(b[j][k])%uint64(p)) % uint64(p)
		}
		return sum
	}, p)
}

// minor: the determinant by its first row.
func minor(m api.ModMat, p uint32) uint32 {
	if len(m) == 0 {
		return 1 % p
	}
	sum := uint64(0)
	for c, x := range m[0] {
		var rest api.ModMat
		for _, row := range m[1:] {
			rest = append(rest, append(slices.Clone(row[:c]), row[c+1:]...))
		}
		term := uint64(x%p) * uint64(minor(rest, p)) % uint64(p)
		if c%2 == 1 {
			term = uint64(p) - term
		}
		sum += term
	}
	return uint32(sum % uint64(p))
}

func same(t *testing.T, what string, got, want any) {
	t.Helper()
	if text(got) != text(want) {
		t.Errorf("%s: %v, want %v", what, got, want)
	}
}

func TestReckoning(t *testing.T) { // P10.1, P10.2, P10.3, P10.7
	r := rand.New(rand.NewSource(1))
	for _, p := range primes {
		for range 80 {
			n, k, l := r.Intn(5), r.Intn(5), r.Intn(5)
			if n == 0 {
				k = 0
			}
			if k == 0 {
				l = 0
			}
			a, a2, b, c := some(r, n, k), some(r, n, k), some(r, k, l), r.Uint32()
			got, e := modmat.Normal(a, p)
			same(t, "Normal", text(got, e), text(reduced(a, p), api.OK))
			rows, columns, e := modmat.Size(a, p)
			same(t, "Size", text(rows, columns, e), text(n, k, api.OK))
			got, e = modmat.Add(a, a2, p)
			same(t, "Add", text(got, e), text(entries(n, k, func(i, j int) uint64 { return uint64(a[i][j]) + uint64(a2[i][j]) }, p), api.OK))
			got, e = modmat.Sub(a, a2, p)
			same(t, "Sub", text(got, e), text(entries(n, k, func(i, j int) uint64 { return uint64(a[i][j]%p) + uint64(p-a2[i][j]%p) }, p), api.OK))
			got, e = modmat.Scale(a, c, p)
			same(t, "Scale", text(got, e), text(entries(n, k, func(i, j int) uint64 { return uint64(a[i][j]) * uint64(c) }, p), api.OK))
			got, e = modmat.Mul(a, b, p)
			same(t, "Mul", text(got, e), text(product(a, b, p), api.OK))
			got, e = modmat.Transpose(a, p)
			same(t, "Transpose", text(got, e), text(entries(k, n, func(i, j int) uint64 { return uint64(a[j][i]) }, p), api.OK))
			x, y := some(r, 1, l)[0], some(r, 1, l)[0]
			dot, e := modmat.Dot(x, y, p)
			turned, _ := modmat.Transpose(api.ModMat{y}, p)
			if w := product(api.ModMat{x}, turned, p); l > 0 && (dot != w[0][0] || e != api.OK) || l == 0 && (dot != 0 || e != api.OK) {
				t.Errorf("Dot(%v, %v, %d): %d, %d", x, y, p, dot, e)
			}
			vander, e := modmat.Vander(x, n, p)
			same(t, "Vander", text(vander, e), text(entries(l, n, func(i, j int) uint64 {
				power := uint64(1)
				for range j {
					power = power * uint64(x[i]) % uint64(p)
				}
				return power
			}, p), api.OK))
		}
	}
}

func TestSquares(t *testing.T) { // P10.3, P10.4, P10.6, P10.8, P10.9
	r := rand.New(rand.NewSource(2))
	for _, p := range primes {
		for range 60 {
			n := r.Intn(4) + 1
			a, b := some(r, n, n), some(r, n, n)
			id, e := modmat.Identity(n, p)
			same(t, "Identity", text(id, e), text(entries(n, n, func(i, k int) uint64 { return uint64(max(0, 1-max(i-k, k-i))) }, p), api.OK))
			k := uint64(r.Intn(6))
			power := id
			for range k {
				power = product(power, a, p)
			}
			got, e := modmat.Pow(a, k, p)
			same(t, "Pow", text(got, e), text(power, api.OK))
			trace := uint64(0)
			for i := range a {
				trace += uint64(a[i][i])
			}
			tr, e := modmat.Trace(a, p)
			same(t, "Trace", text(tr, e), text(trace%uint64(p), api.OK))
			det, e := modmat.Det(a, p)
			same(t, "Det", text(det, e), text(minor(a, p), api.OK))
			detB, _ := modmat.Det(b, p)
			both, _ := modmat.Det(product(a, b, p), p)
			same(t, "Det of a product", both, uint64(det)*uint64(detB)%uint64(p))
			inverse, e := modmat.Inverse(a, p)
			if det == 0 {
				same(t, "Inverse of Det 0", text(inverse, e), text(api.ModMat(nil), api.ErrSingular))
				continue
			}
			same(t, "a times Inverse", text(product(a, inverse, p), e), text(id, api.OK))
			same(t, "Inverse times a", product(inverse, a, p), id)
		}
	}
	got, e := modmat.Pow(api.ModMat{{1, 1}, {0, 1}}, math.MaxUint64, 7)
	same(t, "Pow to 2^64 - 1", text(got, e), "[[1 1] [0 1]] errno ") // 2^64 - 1 is 1 modulo 7
	got, e = modmat.Pow(api.ModMat{{0}}, 0, 2)
	same(t, "0^0", text(got, int(e)), "[[1]] 0")
}

func TestReduce(t *testing.T) { // P10.4, P10.5, P10.6, P10.10, P10.11
	r := rand.New(rand.NewSource(3))
	for _, p := range primes {
		for range 120 {
			n, k := r.Intn(5), r.Intn(5)
			if n == 0 {
				k = 0
			}
			m := some(r, n, k)
			form, pivots, e := modmat.Reduce(m, p)
			what := text("Reduce ", m, p, " to ", form, pivots)
			if e != api.OK || !isReduced(form, pivots) || len(form) != n || n > 0 && width(form) != k {
				t.Fatalf("%s: %d", what, e)
			}
			again, pivots2, _ := modmat.Reduce(form, p)
			same(t, "Reduce of Reduce", text(again, pivots2), text(form, pivots))
			rank, e := modmat.Rank(m, p)
			same(t, "Rank", text(rank, e), text(len(pivots), api.OK))
			turned, _ := modmat.Transpose(m, p)
			rank, _ = modmat.Rank(turned, p)
			same(t, "Rank of the transpose", rank, len(pivots))
			// the rows have the same combinations: one above the other they have the same form, but for noughts
			both, _, _ := modmat.Reduce(append(slices.Clone(m), form...), p)
			same(t, what, both[:n], form)
			kernel, e := modmat.Kernel(m, p)
			var free []int
			for c := range k {
				if !slices.Contains(pivots, c) {
					free = append(free, c)
				}
			}
			if len(kernel) != len(free) || e != api.OK {
				t.Fatalf("Kernel(%v, %d): %v, %d", m, p, kernel, e)
			}
			for i, x := range kernel {
				column, _ := modmat.Transpose(api.ModMat{x}, p)
				same(t, "m times Kernel", product(m, column, p), make([][1]int, n))
				for j, c := range free {
					if x[c] != uint32(max(0, 1-max(i-j, j-i))) {
						t.Errorf("Kernel(%v, %d): %v", m, p, kernel)
					}
				}
			}
			solve(t, r, m, form, pivots, p)
		}
	}
}

// isReduced: each pivot is a 1 further to the right, with noughts ahead of it, above it and below it.
func isReduced(form api.ModMat, pivots []int) bool {
	for i, row := range form {
		at := slices.IndexFunc(row, func(x uint32) bool { return x != 0 })
		if i >= len(pivots) {
			if at >= 0 {
				return false
			}
			continue
		}
		if at != pivots[i] || row[at] != 1 || i > 0 && pivots[i] <= pivots[i-1] {
			return false
		}
		for j := range form {
			if j != i && form[j][at] != 0 {
				return false
			}
		}
	}
	return len(pivots) <= len(form)
}

// solve holds Solve against what it promises: of what has a solution, and of anything.
func solve(t *testing.T, r *rand.Rand, m, form api.ModMat, pivots []int, p uint32) {
	t.Helper()
	n, k := len(m), width(m)
	b := some(r, 1, n)[0]
	if r.Intn(2) == 0 {
		b = nil
		x := some(r, k, 1)
		for i := range m {
			b = append(b, 0)
			for j := range x {
				b[i] = uint32((uint64(b[i]) + uint64(m[i][j])*uint64(x[j][0])%uint64(p)) % uint64(p))
			}
		}
	}
	x, ok, e := modmat.Solve(m, b, p)
	wide := make(api.ModMat, n)
	for i := range m {
		wide[i] = append(slices.Clone(m[i]), b[i])
	}
	rank, _ := modmat.Rank(wide, p)
	if e != api.OK || ok != (rank == len(pivots)) {
		t.Fatalf("Solve(%v, %v, %d): %v, %t, %d", m, b, p, x, ok, e)
	}
	if !ok {
		same(t, "Solve", len(x), 0)
		return
	}
	for i, row := range m {
		sum := uint64(0)
		for j, y := range row {
			sum += uint64(y) * uint64(x[j]) % uint64(p)
		}
		same(t, "m x", sum%uint64(p), b[i]%p)
	}
	for c, y := range x {
		if y >= p || y != 0 && !slices.Contains(pivots, c) {
			t.Errorf("Solve(%v, %v, %d): %v", m, b, p, x)
		}
	}
	same(t, "as many numbers as columns", len(x), k)
}

func TestExamples(t *testing.T) {
	m := api.ModMat{{1, 2}, {2, 4}}
	same(t, "Reduce", text(modmat.Reduce(m, 5)), "[[1 2] [0 0]] [0] errno ")
	same(t, "Rank", text(modmat.Rank(m, 5)), "1 errno ")
	same(t, "Det", text(modmat.Det(m, 5)), "0 errno ")
	same(t, "Kernel", text(modmat.Kernel(m, 5)), "[[3 1]] errno ")
	same(t, "Inverse", text(modmat.Inverse(m, 5)), "[] errno 7")
	same(t, "Solve", text(modmat.Solve(m, []uint32{1, 2}, 5)), "[1 0] true errno ")
	same(t, "Solve", text(modmat.Solve(m, []uint32{1, 1}, 5)), "[] false errno ")
	same(t, "Inverse", text(modmat.Inverse(api.ModMat{{1, 1}, {0, 1}}, 7)), "[[1 6] [0 1]] errno ")
	same(t, "Pow", text(modmat.Pow(api.ModMat{{1, 1}, {0, 1}}, 10, 7)), "[[1 3] [0 1]] errno ")
	same(t, "Vander", text(modmat.Vander([]uint32{2, 3}, 3, 7)), "[[1 2 4] [1 3 2]] errno ")
	same(t, "Mul", text(modmat.Mul(api.ModMat{{1}, {2}}, api.ModMat{{3, 4}}, 5)), "[[3 4] [1 3]] errno ")
}

func TestEdges(t *testing.T) { // no rows, rows of nothing, and the limits
	none, hollow := api.ModMat{}, api.ModMat{{}, nil, {}}
	same(t, "Size", text(modmat.Size(nil, 7)), "0 0 errno ")
	same(t, "Size", text(modmat.Size(hollow, 7)), "3 0 errno ")
	same(t, "Normal", text(modmat.Normal(hollow, 7)), "[[] [] []] errno ")
	same(t, "Transpose", text(modmat.Transpose(hollow, 7)), "[] errno ")
	same(t, "Mul", text(modmat.Mul(hollow, none, 7)), "[[] [] []] errno ")
	same(t, "Mul", text(modmat.Mul(none, hollow, 7)), "[] errno 2")
	same(t, "Mul", text(modmat.Mul(none, none, 7)), "[] errno ")
	same(t, "Add", text(modmat.Add(hollow, hollow, 7)), "[[] [] []] errno ")
	same(t, "Add", text(modmat.Add(hollow, none, 7)), "[] errno 2")
	same(t, "Reduce", text(modmat.Reduce(hollow, 7)), "[[] [] []] [] errno ")
	same(t, "Kernel", text(modmat.Kernel(hollow, 7)), "[] errno ")
	same(t, "Kernel", text(modmat.Kernel(none, 7)), "[] errno ")
	same(t, "Solve", text(modmat.Solve(none, nil, 7)), "[] true errno ")
	same(t, "Solve", text(modmat.Solve(hollow, []uint32{0, 7, 0}, 7)), "[] true errno ")
	same(t, "Solve", text(modmat.Solve(hollow, []uint32{0, 1, 0}, 7)), "[] false errno ")
	same(t, "Identity", text(modmat.Identity(0, 7)), "[] errno ")
	same(t, "Vander", text(modmat.Vander([]uint32{1, 2}, 0, 7)), "[[] []] errno ")
	same(t, "Vander", text(modmat.Vander(nil, 3, 7)), "[] errno ")
	same(t, "Dot", text(modmat.Dot(nil, []uint32{}, 7)), "0 errno ")
	for _, n := range []int{-1, 201, math.MinInt, math.MaxInt} {
		same(t, "Identity", text(modmat.Identity(n, 7)), "[] errno 1")
		same(t, "Vander", text(modmat.Vander(nil, n, 7)), "[] errno 1")
	}
	same(t, "Vander", text(modmat.Vander(make([]uint32, 201), 1, 7)), "[] errno 1")
	if m, e := modmat.Vander(make([]uint32, 200), 200, 7); e != api.OK || len(m) != 200 || len(m[199]) != 200 {
		t.Errorf("Vander of 200: %d", e)
	}
	if m, e := modmat.Identity(200, 7); e != api.OK || len(m) != 200 || m[199][199] != 1 {
		t.Errorf("Identity(200): %d", e)
	}
	big := entries(60, 60, func(i, k int) uint64 { return math.MaxUint64 / uint64(i*k+i+k+1) }, greatest)
	if inverse, e := modmat.Inverse(big, greatest); e == api.OK {
		id, _ := modmat.Identity(60, greatest)
		got, _ := modmat.Mul(big, inverse, greatest)
		same(t, "60 rows times their inverse", got, id)
	} else if det, _ := modmat.Det(big, greatest); det != 0 {
		t.Errorf("Inverse of 60 rows: %d", e)
	}
}

func TestFaults(t *testing.T) { // the errors, in their order
	ragged, wide, square := api.ModMat{{1, 2}, {3}}, api.ModMat{{1, 2}}, api.ModMat{{1}}
	type calls = map[string]func(m api.ModMat, p uint32) api.Errno
	rest := func(e api.Errno, left ...any) api.Errno {
		for _, x := range left {
			if s := text(x); s != "[]" && s != "0" && s != "false" {
				t.Errorf("%s beside error %d", s, e)
			}
		}
		return e
	}
	any1 := calls{
		"Normal":    func(m api.ModMat, p uint32) api.Errno { x, e := modmat.Normal(m, p); return rest(e, x) },
		"Size":      func(m api.ModMat, p uint32) api.Errno { x, y, e := modmat.Size(m, p); return rest(e, x, y) },
		"Add":       func(m api.ModMat, p uint32) api.Errno { x, e := modmat.Add(square, m, p); return rest(e, x) },
		"Add 1":     func(m api.ModMat, p uint32) api.Errno { x, e := modmat.Add(m, square, p); return rest(e, x) },
		"Sub":       func(m api.ModMat, p uint32) api.Errno { x, e := modmat.Sub(square, m, p); return rest(e, x) },
		"Mul":       func(m api.ModMat, p uint32) api.Errno { x, e := modmat.Mul(square, m, p); return rest(e, x) },
		"Mul 1":     func(m api.ModMat, p uint32) api.Errno { x, e := modmat.Mul(m, nil, p); return rest(e, x) },
		"Scale":     func(m api.ModMat, p uint32) api.Errno { x, e := modmat.Scale(m, 0, p); return rest(e, x) },
		"Transpose": func(m api.ModMat, p uint32) api.Errno { x, e := modmat.Transpose(m, p); return rest(e, x) },
		"Reduce":    func(m api.ModMat, p uint32) api.Errno { x, y, e := modmat.Reduce(m, p); return rest(e, x, y) },
		"Rank":      func(m api.ModMat, p uint32) api.Errno { x, e := modmat.Rank(m, p); return rest(e, x) },
		"Solve":     func(m api.ModMat, p uint32) api.Errno { x, y, e := modmat.Solve(m, nil, p); return rest(e, x, y) },
		"Kernel":    func(m api.ModMat, p uint32) api.Errno { x, e := modmat.Kernel(m, p); return rest(e, x) },
	}
	squares := calls{
		"Pow":     func(m api.ModMat, p uint32) api.Errno { x, e := modmat.Pow(m, 0, p); return rest(e, x) },
		"Trace":   func(m api.ModMat, p uint32) api.Errno { x, e := modmat.Trace(m, p); return rest(e, x) },
		"Det":     func(m api.ModMat, p uint32) api.Errno { x, e := modmat.Det(m, p); return rest(e, x) },
		"Inverse": func(m api.ModMat, p uint32) api.Errno { x, e := modmat.Inverse(m, p); return rest(e, x) },
	}
	for _, set := range []calls{any1, squares} {
		for what, call := range set {
			for _, p := range []uint32{0, 1, 6, math.MaxUint32} {
				same(t, what+" modulo no prime", call(ragged, p), api.ErrPrime)
			}
			same(t, what+" of ragged rows", call(ragged, 7), api.ErrShape)
			same(t, what+" of ragged rows", call(api.ModMat{{}, {1}}, 7), api.ErrShape)
		}
	}
	for what, call := range squares {
		for _, m := range []api.ModMat{nil, {}, wide, {{}}, {{1}, {2}}} {
			same(t, what+" of what is not square", call(m, 7), api.ErrNotSquare)
		}
	}
	for what, e := range map[string]api.Errno{
		"Identity": second(modmat.Identity(-1, 4)), "Vander": second(modmat.Vander(nil, -1, 4)), "Dot": second(modmat.Dot(nil, []uint32{1}, 4)),
	} {
		same(t, what+" modulo no prime", e, api.ErrPrime)
	}
	same(t, "Dot", text(modmat.Dot([]uint32{1}, []uint32{1, 2}, 7)), "0 errno 2")
	same(t, "Solve", text(modmat.Solve(square, []uint32{1, 2}, 7)), "[] false errno 2")
	same(t, "Sub", text(modmat.Sub(wide, square, 7)), "[] errno 2")
	same(t, "Add", text(modmat.Add(wide, api.ModMat{{1, 2}, {3, 4}}, 7)), "[] errno 2")
	same(t, "Mul", text(modmat.Mul(wide, square, 7)), "[] errno 2")
}

func second[T any](_ T, e api.Errno) api.Errno { return e }

func TestMemory(t *testing.T) { // R3: what is handed in stays, what is answered is new
	const p = 7
	calls := map[string]func(a, b api.ModMat) []api.ModMat{
		"Normal":    func(a, b api.ModMat) []api.ModMat { x, _ := modmat.Normal(a, p); return []api.ModMat{x} },
		"Add":       func(a, b api.ModMat) []api.ModMat { x, _ := modmat.Add(a, b, p); return []api.ModMat{x} },
		"Sub":       func(a, b api.ModMat) []api.ModMat { x, _ := modmat.Sub(a, b, p); return []api.ModMat{x} },
		"Mul":       func(a, b api.ModMat) []api.ModMat { x, _ := modmat.Mul(a, b, p); return []api.ModMat{x} },
		"Scale":     func(a, b api.ModMat) []api.ModMat { x, _ := modmat.Scale(a, 1, p); return []api.ModMat{x} },
		"Transpose": func(a, b api.ModMat) []api.ModMat { x, _ := modmat.Transpose(a, p); return []api.ModMat{x} },
		"Pow":       func(a, b api.ModMat) []api.ModMat { x, _ := modmat.Pow(a, 1, p); return []api.ModMat{x} },
		"Inverse":   func(a, b api.ModMat) []api.ModMat { x, _ := modmat.Inverse(a, p); return []api.ModMat{x} },
		"Kernel":    func(a, b api.ModMat) []api.ModMat { x, _ := modmat.Kernel(a, p); return []api.ModMat{x} },
		"Reduce":    func(a, b api.ModMat) []api.ModMat { x, _, _ := modmat.Reduce(a, p); return []api.ModMat{x} },
		"Solve":     func(a, b api.ModMat) []api.ModMat { x, _, _ := modmat.Solve(a, b[0], p); return []api.ModMat{{x}} },
		"Vander":    func(a, b api.ModMat) []api.ModMat { x, _ := modmat.Vander(a[0], 3, p); return []api.ModMat{x} },
		"numbers": func(a, b api.ModMat) []api.ModMat {
			modmat.Det(a, p)
			modmat.Rank(a, p)
			modmat.Trace(a, p)
			modmat.Dot(a[0], b[0], p)
			return nil
		},
	}
	r := rand.New(rand.NewSource(4))
	for what, call := range calls {
		for range 30 {
			full := []api.ModMat{some(r, 4, 5), some(r, 4, 5)}
			kept := text(full)
			var in []api.ModMat
			for _, m := range full {
				cut := make(api.ModMat, 3, 4)
				for i := range cut {
					cut[i] = m[i][:3]
				}
				in = append(in, cut)
			}
			first := text(call(in[0], in[1]))
			mark := uint32(100)
			out := call(in[0], in[1])
			for _, m := range out {
				for i := range m {
					mark++
					room := m[i][:cap(m[i])]
					for k := range room {
						room[k] = mark
					}
				}
			}
			mark = 100
			for _, m := range out {
				for i := range m {
					mark++
					if slices.ContainsFunc(m[i], func(x uint32) bool { return x != mark }) {
						t.Errorf("%s: two lists of the answer share memory", what)
					}
					m[i] = nil
				}
			}
			if text(full) != kept || text(call(in[0], in[1])) != first || in[0][:4][3] != nil {
				t.Errorf("%s changes what is handed in, or shares it", what)
			}
		}
	}
}
