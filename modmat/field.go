package modmat

import (
	"iter"
	"math"
	"math/bits"

	"simile/api"
	"simile/prime"
)

// field reckons modulo its prime, with numbers below it.
type field struct {
	p     uint64
	spill uint64 // 2^64 modulo p
}

// read: matrices in new memory, with numbers below p; ErrPrime, ErrShape.
func read(p uint32, all ...api.ModMat) (field, []api.ModMat, api.Errno) {
	if !prime.Is(p) {
		return field{}, nil, api.ErrPrime
	}
	out := make([]api.ModMat, len(all))
	for j, m := range all {
		for _, row := range m {
			if len(row) != columns(m) {
				return field{}, nil, api.ErrShape
			}
		}
		out[j] = made(len(m), columns(m), func(i, k int) uint32 { return m[i][k] % p })
	}
	return field{uint64(p), (math.MaxUint64%uint64(p) + 1) % uint64(p)}, out, api.OK
}

// readSquare: likewise, of one matrix; then ErrNotSquare.
func readSquare(m api.ModMat, p uint32) (field, api.ModMat, api.Errno) {
	f, l, e := read(p, m)
	switch {
	case e != api.OK:
		return field{}, nil, e
	case len(m) == 0 || len(m) != columns(m):
		return field{}, nil, api.ErrNotSquare
	}
	return f, l[0], api.OK
}

// columns: how many a matrix has whose rows are equally long.
func columns(m api.ModMat) int {
	if len(m) == 0 {
		return 0
	}
	return len(m[0])
}

// made: a matrix by its entries.
func made(r, c int, entry func(i, k int) uint32) api.ModMat {
	out := make(api.ModMat, r)
	for i := range out {
		out[i] = make([]uint32, c)
		for k := range out[i] {
			out[i][k] = entry(i, k)
		}
	}
	return out
}

func identity(n int) api.ModMat {
	return made(n, n, func(i, k int) uint32 {
		if i == k {
			return 1
		}
		return 0
	})
}

func transposed(m api.ModMat) api.ModMat {
	return made(columns(m), len(m), func(i, k int) uint32 { return m[k][i] })
}

// places tells where a matrix has entries, row by row.
func places(m api.ModMat) iter.Seq2[int, int] {
	return func(yield func(int, int) bool) {
		for i, row := range m {
			for k := range row {
				if !yield(i, k) {
					return
				}
			}
		}
	}
}

// plus: x + c y.
func (f field) plus(x, y, c uint32) uint32 {
	return uint32((uint64(x) + uint64(y)*uint64(c)) % f.p)
}

func (f field) inverse(x uint32) uint32 {
	out, _ := prime.Inv(x, uint32(f.p))
	return out
}

// dot: the sum of the products; a and b are equally long.
func (f field) dot(a, b []uint32) uint32 {
	sum := uint64(0)
	for i, x := range a {
		var over uint64
		sum, over = bits.Add64(sum, uint64(x)*uint64(b[i]), 0)
		if over != 0 { // what is left is below the product that was added, so this can't go over
			sum += f.spill
		}
	}
	return uint32(sum % f.p)
}

// product: a has as many columns as b rows.
func (f field) product(a, b api.ModMat) api.ModMat {
	turned := transposed(b)
	return made(len(a), columns(b), func(i, k int) uint32 { return f.dot(a[i], turned[k]) })
}

// subtract takes c times one row from another one.
func (f field) subtract(from, row []uint32, c uint32) {
	if c == 0 {
		return
	}
	for k, x := range row {
		from[k] = f.plus(from[k], x, uint32(f.p)-c)
	}
}

// lift exchanges row k with the first one from k on that is not 0 in a column; it tells which one that is, or -1.
func lift(m api.ModMat, k, column int) int {
	for i := k; i < len(m); i++ {
		if m[i][column] != 0 {
			m[i], m[k] = m[k], m[i]
			return i
		}
	}
	return -1
}

// reduce makes m its reduced echelon form, and tells its pivots' columns.
func (f field) reduce(m api.ModMat) []int {
	var pivots []int
elimination:
	for c := range columns(m) {
		k := len(pivots)
		if k == len(m) {
			break elimination
		}
		if lift(m, k, c) < 0 {
			continue elimination
		}
		unit := f.inverse(m[k][c])
		for j, x := range m[k] {
			m[k][j] = f.plus(0, x, unit)
		}
		for i := range m {
			if i != k {
				f.subtract(m[i], m[k], m[i][c])
			}
		}
		pivots = append(pivots, c)
	}
	return pivots
}

// determinant: that of a square m, which is changed.
func (f field) determinant(m api.ModMat) uint32 {
	out := uint32(1)
	for k := range m {
		switch lift(m, k, k) {
		case -1:
			return 0
		case k:
		default:
			out = f.plus(0, out, uint32(f.p)-1)
		}
		out = f.plus(0, out, m[k][k])
		unit := f.inverse(m[k][k])
		for i := k + 1; i < len(m); i++ {
			f.subtract(m[i], m[k], f.plus(0, m[i][k], unit))
		}
	}
	return out
}
