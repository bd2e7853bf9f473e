package smith

import (
	"slices"

	"simile/api"
	"simile/qpoly"
	"simile/rat"
)

// step is one that has an inverse: done to a matrix's rows or columns, and to a transform's alike.
type step interface {
	rows(m matrix)
	columns(m matrix)
}

// exchange is of two rows or columns.
type exchange struct{ i, k int }

func (s exchange) rows(m matrix) { m[s.i], m[s.k] = m[s.k], m[s.i] }

func (s exchange) columns(m matrix) {
	for _, row := range m {
		row[s.i], row[s.k] = row[s.k], row[s.i]
	}
}

// add takes times one from another one.
type add struct {
	to, from int
	times    api.Poly
}

func (s add) rows(m matrix) {
	for k, f := range m[s.from] {
		if len(f) > 0 {
			m[s.to][k] = difference(m[s.to][k], product(f, s.times))
		}
	}
}

func (s add) columns(m matrix) {
	for _, row := range m {
		if f := row[s.from]; len(f) > 0 {
			row[s.to] = difference(row[s.to], product(f, s.times))
		}
	}
}

// scale is by a number that is not 0.
type scale struct {
	at     int
	number api.Rat
}

func (s scale) rows(m matrix) {
	for k, f := range m[s.at] {
		m[s.at][k], _ = qpoly.Scale(f, s.number)
	}
}

func (s scale) columns(m matrix) {
	for _, row := range m {
		row[s.at], _ = qpoly.Scale(row[s.at], s.number)
	}
}

// work is an elimination: the matrix, and what its rows and its columns were led by, if that is asked for.
type work struct {
	m, left, right matrix
}

func begun(m matrix) *work {
	return &work{m: m.copied(), left: identity(len(m)), right: identity(columns(m))}
}

func (w *work) onRows(s step) {
	s.rows(w.m)
	s.rows(w.left)
}

func (w *work) onColumns(s step) {
	s.columns(w.m)
	s.columns(w.right)
}

// run makes the matrix its Smith form; it answers the rank.
func (w *work) run() int {
	k := 0
	for k < len(w.m) && k < columns(w.m) {
		w.reduce(k)
		if !w.settle(k) {
			break
		}
		lead, _ := rat.Inv(w.m[k][k][len(w.m[k][k])-1])
		w.onRows(scale{k, lead})
		k++
	}
	return k
}

// settle makes all else in row and column k 0, and the entry there one that divides all further ones; false, if all
// of them are 0. Each time round the entry has a lesser degree.
func (w *work) settle(k int) bool {
elimination:
	for {
		i, j := w.least(k)
		if i < 0 {
			return false
		}
		w.onRows(exchange{i, k})
		w.onColumns(exchange{j, k})
		if !w.clearColumn(k) || !w.clearRow(k) {
			continue elimination
		}
		i = w.odd(k)
		if i < 0 {
			return true
		}
		w.onRows(add{k, i, api.Poly{rat.Of(-1)}})
		w.clearRow(k)
	}
}

// top: the place of the last entry of the greatest degree in a row; -1, if all are 0.
func (w *work) top(i int) int {
	at := -1
	for j, f := range w.m[i] {
		if len(f) > 0 && (at < 0 || len(f) >= len(w.m[i][at])) {
			at = j
		}
	}
	return at
}

// reduce takes multiples of the rows from k on from one another, till none has a term that another one's top divides.
// So the degrees stay as low as they can be, and the coefficients are quotients of minors.
func (w *work) reduce(k int) {
	for again := true; again; {
		again = false
		for j := k; j < len(w.m); j++ {
			p := w.top(j)
			if p < 0 {
				continue
			}
			for i := k; i < len(w.m); i++ {
				if i != j && len(w.m[i][p]) >= len(w.m[j][p]) {
					q, _, _ := qpoly.Div(w.m[i][p], w.m[j][p])
					w.onRows(add{i, j, q})
					again = true
				}
			}
		}
	}
}

// least: where from row and column k on the polynomial of least degree stands that is not 0; -1, if there is none.
func (w *work) least(k int) (int, int) {
	row, column := -1, -1
	for i := k; i < len(w.m); i++ {
		for j := k; j < len(w.m[i]); j++ {
			if f := w.m[i][j]; len(f) > 0 && (row < 0 || len(f) < len(w.m[row][column]) || len(f) == len(w.m[row][column]) && w.degree(i) > w.degree(row)) {
				row, column = i, j
			}
		}
	}
	return row, column
}

func (w *work) degree(i int) int {
	out := 0
	for _, f := range w.m[i] {
		out = max(out, len(f))
	}
	return out
}

// clearColumn takes multiples of row k from those below; false, if something is left in column k.
func (w *work) clearColumn(k int) bool {
	clear := true
	for i := k + 1; i < len(w.m); i++ {
		if len(w.m[i][k]) == 0 {
			continue
		}
		q, _, _ := qpoly.Div(w.m[i][k], w.m[k][k])
		w.onRows(add{i, k, q})
		clear = clear && len(w.m[i][k]) == 0
	}
	return clear
}

// clearRow: likewise of columns.
func (w *work) clearRow(k int) bool {
	clear := true
	for j := k + 1; j < len(w.m[k]); j++ {
		if len(w.m[k][j]) == 0 {
			continue
		}
		q, _, _ := qpoly.Div(w.m[k][j], w.m[k][k])
		w.onColumns(add{j, k, q})
		clear = clear && len(w.m[k][j]) == 0
	}
	return clear
}

// pivot is the polynomial that is to divide all others.
type pivot api.Poly

// leaves: does it leave something of another one?
func (p pivot) leaves(f api.Poly) bool {
	divides, _ := qpoly.Divides(api.Poly(p), f)
	return !divides
}

// odd: a row below k with a polynomial that the one at k does not divide; -1, if there is none.
func (w *work) odd(k int) int {
	isOdd := pivot(w.m[k][k]).leaves
	for i := k + 1; i < len(w.m); i++ {
		if slices.ContainsFunc(w.m[i][k+1:], isOdd) {
			return i
		}
	}
	return -1
}
