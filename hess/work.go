package hess

import (
	"simile/api"
	"simile/prime"
)

// work is a matrix on its way, and, if they are asked for, a transform s and its inverse r: r times what there was
// at first, times s, is h.
type work struct {
	p       uint64
	h, s, r api.ModMat
}

// begun: a copy with numbers below p; ErrPrime, ErrShape, ErrNotSquare, ErrTooBig.
func begun(m api.ModMat, p uint32) (*work, api.Errno) {
	if !prime.Is(p) {
		return nil, api.ErrPrime
	}
	for _, row := range m {
		if len(row) != len(m[0]) {
			return nil, api.ErrShape
		}
	}
	switch {
	case len(m) == 0 || len(m) != len(m[0]):
		return nil, api.ErrNotSquare
	case len(m) > api.MaxDim:
		return nil, api.ErrTooBig
	}
	out := &work{p: uint64(p), h: make(api.ModMat, len(m))}
	for i, row := range m {
		out.h[i] = make([]uint32, len(row))
		for k, x := range row {
			out.h[i][k] = x % p
		}
	}
	return out, api.OK
}

func identity(n int) api.ModMat {
	out := make(api.ModMat, n)
	for i := range out {
		out[i] = make([]uint32, n)
		out[i][i] = 1
	}
	return out
}

// plus: x + c y.
func (w *work) plus(x, y, c uint32) uint32 {
	return uint32((uint64(x) + uint64(y)*uint64(c)) % w.p)
}

// negative: 0 - x, of an x below p.
func (w *work) negative(x uint32) uint32 {
	if x == 0 {
		return 0
	}
	return uint32(w.p) - x
}

// addRow adds c times one row to another one.
func (w *work) addRow(m api.ModMat, to, from int, c uint32) {
	for k, x := range m[from] {
		m[to][k] = w.plus(m[to][k], x, c)
	}
}

// addColumn adds c times one column to another one.
func (w *work) addColumn(m api.ModMat, to, from int, c uint32) {
	for _, row := range m {
		row[to] = w.plus(row[to], row[from], c)
	}
}

func swapRows(m api.ModMat, i, k int) { m[i], m[k] = m[k], m[i] }

func swapColumns(m api.ModMat, i, k int) {
	for _, row := range m {
		row[i], row[k] = row[k], row[i]
	}
}

// exchange is of two rows, and of the same two columns.
func (w *work) exchange(i, k int) {
	swapRows(w.h, i, k)
	swapColumns(w.h, i, k)
	swapColumns(w.s, i, k)
	if w.r != nil {
		swapRows(w.r, i, k)
	}
}

// shear takes c times row from from another one, and so adds c times that one's column to from's.
func (w *work) shear(to, from int, c uint32) {
	change := w.addRow
	change(w.h, to, from, w.negative(c))
	if w.r != nil {
		change(w.r, to, from, w.negative(c))
	}
	w.addColumn(w.h, from, to, c)
	w.addColumn(w.s, from, to, c)
}

// reduce makes the matrix a Hessenberg one.
func (w *work) reduce() {
	for k := range len(w.h) - 1 {
		pivot := k + 1
		for pivot < len(w.h) && w.h[pivot][k] == 0 {
			pivot++
		}
		if pivot == len(w.h) {
			continue
		}
		w.exchange(pivot, k+1)
		unit, _ := prime.Inv(w.h[k+1][k], uint32(w.p))
		for i := k + 2; i < len(w.h); i++ {
			if x := w.h[i][k]; x != 0 {
				w.shear(i, k+1, w.plus(0, x, unit))
			}
		}
	}
}

// char: the characteristic polynomial of a Hessenberg matrix, by those of its first k rows and columns: by the last
// column each one is made of those ahead of it.
func (w *work) char() api.ModPoly {
	polys := []api.ModPoly{{1}}
	for k := range len(w.h) {
		next := make(api.ModPoly, k+2)
		copy(next[1:], polys[k])
		times := uint32(1) // the product of the numbers below the diagonal from row i + 1 to row k
		for i := k; i >= 0; i-- {
			c := w.negative(w.plus(0, w.h[i][k], times))
			for j, x := range polys[i] {
				next[j] = w.plus(next[j], x, c)
			}
			if i > 0 {
				times = w.plus(0, times, w.h[i][i-1])
			}
		}
		polys = append(polys, next)
	}
	return polys[len(w.h)]
}
