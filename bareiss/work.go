package bareiss

import (
	"simile/api"
	"simile/qmat"
	"simile/rat"
	"simile/zint"
)

// work is an elimination: its rows, the last pivot, and how many exchanges there were.
type work struct {
	rows      [][]api.Int
	last      api.Int
	exchanges int
}

// Where an elimination makes noughts: below the pivots alone, or above them, too.
const (
	below = iota
	everywhere
)

// begun: an elimination of rows that are copied.
func begun(rows [][]api.Int) *work {
	return &work{rows: mapped(rows, zint.Norm), last: zint.Of(1)}
}

// run eliminates column by column, and answers the pivots' columns. With noughts everywhere else all pivots
// are the last one in the end.
func (w *work) run(where int) []int {
	var pivots []int
	found := func(column int) { pivots = append(pivots, column) }
elimination:
	for c := range columns(w.rows) {
		k := len(pivots)
		if k == len(w.rows) {
			break elimination
		}
		if !w.lift(k, c) {
			continue elimination
		}
		first := k + 1
		if where == everywhere {
			first = 0
		}
		for i := first; i < len(w.rows); i++ {
			if i != k {
				w.clear(i, k, c)
			}
		}
		w.last = w.rows[k][c]
		found(c)
	}
	w.last = zint.Norm(w.last) // it stands in the rows, too
	return pivots
}

// lift exchanges row k with the first one from k on that is not 0 in a column; false, if there is none.
func (w *work) lift(k, column int) bool {
	for i := k; i < len(w.rows); i++ {
		if zint.Sign(w.rows[i][column]) == 0 {
			continue
		}
		if i != k {
			w.rows[i], w.rows[k] = w.rows[k], w.rows[i]
			w.exchanges++
		}
		return true
	}
	return false
}

// clear makes the number of row i in a column 0, by row k, whose pivot stands there.
func (w *work) clear(i, k, column int) {
	from, row := w.rows[i], w.rows[k]
	pivot, times := row[column], from[column]
	if zint.Cmp(pivot, w.last) == 0 {
		w.subtract(from, row, times)
		return
	}
	for j, x := range from {
		plus, minus := zint.Sign(x) != 0, zint.Sign(times) != 0 && zint.Sign(row[j]) != 0
		switch {
		case plus && minus:
			from[j] = whole(zint.Sub(zint.Mul(x, pivot), zint.Mul(row[j], times)), w.last)
		case plus:
			from[j] = whole(zint.Mul(x, pivot), w.last)
		case minus:
			from[j] = whole(zint.Neg(zint.Mul(row[j], times)), w.last)
		}
	}
}

// subtract is clear's step where the pivot is the last one: it leaves the row as it is, but for what is taken from it.
func (w *work) subtract(from, row []api.Int, times api.Int) {
	if zint.Sign(times) == 0 {
		return
	}
	for j, x := range row {
		if zint.Sign(x) != 0 {
			from[j] = zint.Sub(from[j], whole(zint.Mul(x, times), w.last))
		}
	}
}

// whole: x by a number that divides it: minors are whole (Sylvester), so no input comes to the panic.
func whole(x, by api.Int) api.Int {
	out, e := zint.Exact(x, by)
	if e != api.OK {
		panic(e)
	}
	return out
}

// right: the columns from n on.
func (w *work) right(n int) [][]api.Int {
	out := make([][]api.Int, len(w.rows))
	for i, row := range w.rows {
		out[i] = row[n:]
	}
	return out
}

// beside eliminates rows with the identity beside them.
func beside(rows [][]api.Int) (*work, []int) {
	wide := make([][]api.Int, len(rows))
	for i, row := range rows {
		wide[i] = append(wide[i], row...)
		for k := range rows {
			wide[i] = append(wide[i], zint.Of(int64(max(0, 1-max(i-k, k-i)))))
		}
	}
	w := begun(wide)
	return w, w.run(everywhere)
}

// square: m as it is normal; its faults, then ErrNotSquare.
func square(m api.Mat) (api.Mat, api.Errno) {
	m, e := qmat.Norm(m)
	switch {
	case e != api.OK:
		return api.Mat{}, e
	case len(m.Num) == 0 || len(m.Num) != columns(m.Num):
		return api.Mat{}, api.ErrNotSquare
	}
	return m, api.OK
}

// system: m and b as they are normal; their faults.
func system(m api.Mat, b api.Vec) (api.Mat, api.Vec, api.Errno) {
	m, e := qmat.Norm(m)
	if e != api.OK {
		return api.Mat{}, api.Vec{}, e
	}
	b, e = qmat.VecNorm(b)
	return m, b, e
}

// columns: of no rows none.
func columns(rows [][]api.Int) int {
	if len(rows) == 0 {
		return 0
	}
	return len(rows[0])
}

// mapped: what f makes of each number, in new memory.
func mapped(rows [][]api.Int, f func(x api.Int) api.Int) [][]api.Int {
	out := make([][]api.Int, len(rows))
	for i, row := range rows {
		out[i] = make([]api.Int, len(row))
		for k, x := range row {
			out[i][k] = f(x)
		}
	}
	return out
}

// normal: rows over den, which is not 0, in normal form and new memory.
func normal(rows [][]api.Int, den api.Int) api.Mat {
	out, _ := qmat.Norm(api.Mat{Den: den, Num: rows})
	return out
}

// normalVec: likewise, of one row.
func normalVec(row []api.Int, den api.Int) api.Vec {
	out, _ := qmat.VecNorm(api.Vec{Den: den, Num: row})
	return out
}

// det: the determinant of a matrix with as many rows as columns; of none 1.
func det(m api.Mat) api.Rat {
	w := begun(m.Num)
	if len(w.run(below)) < len(m.Num) {
		return rat.Of(0)
	}
	out, _ := rat.Make(w.signed(w.last), powerOf(m.Den, len(m.Num)))
	return out
}

// signed: with the other sign, if the number of exchanges is odd.
func (w *work) signed(x api.Int) api.Int {
	if w.exchanges%2 == 1 {
		return zint.Neg(x)
	}
	return x
}

// powerOf: x to the k, whatever its size.
func powerOf(x api.Int, k int) api.Int {
	l := make([]api.Int, k)
	for i := range l {
		l[i] = x
	}
	return zint.Product(l...)
}

// kernel: that of rows.
func kernel(rows [][]api.Int) []api.Vec {
	w := begun(rows)
	pivots := w.run(everywhere)
	var out []api.Vec
	at := 0 // how many pivots stand ahead of c
	for c := range columns(rows) {
		if at < len(pivots) && pivots[at] == c {
			at++
			continue
		}
		x := make([]api.Int, columns(rows))
		x[c] = w.last
		for i, pivot := range pivots[:at] {
			x[pivot] = zint.Neg(w.rows[i][c])
		}
		out = append(out, normalVec(x, w.last))
	}
	return out
}

// adjugate: of a square m.
func adjugate(m api.Mat) api.Mat {
	n := len(m.Num)
	den := powerOf(m.Den, n-1)
	w, pivots := beside(m.Num)
	if pivots[n-1] == n-1 {
		return normal(mapped(w.right(n), w.signed), den)
	}
	return normal(flatAdjugate(m.Num), den)
}

// flatAdjugate: of rows whose determinant is 0. If but one pivot is lacking, its columns are multiples of the
// kernel's vector, its rows of the transpose's; one minor tells how many times. Else all minors are 0.
func flatAdjugate(rows [][]api.Int) [][]api.Int {
	n := len(rows)
	out := make([][]api.Int, n)
	for i := range out {
		out[i] = make([]api.Int, n)
	}
	right, left := kernel(rows), kernel(transposed(rows))
	if len(right) != 1 {
		return out
	}
	x, y := right[0].Num, left[0].Num
	i, k := place(x), place(y)
	minor := det(api.Mat{Den: zint.Of(1), Num: without(rows, k, i)}).Num
	if (i+k)%2 == 1 {
		minor = zint.Neg(minor)
	}
	unit := zint.Mul(x[i], y[k])
	for r := range out {
		for c := range out[r] {
			out[r][c] = whole(zint.Mul(minor, zint.Mul(x[r], y[c])), unit)
		}
	}
	return out
}

// place: of the first number that is not 0; there is one.
func place(l []api.Int) int {
	i := 0
	for zint.Sign(l[i]) == 0 {
		i++
	}
	return i
}

func transposed(rows [][]api.Int) [][]api.Int {
	out := make([][]api.Int, columns(rows))
	for _, row := range rows {
		for k, x := range row {
			out[k] = append(out[k], x)
		}
	}
	return out
}

// without: all but one row and one column.
func without(rows [][]api.Int, r, c int) [][]api.Int {
	var out [][]api.Int
	for i, row := range rows {
		if i == r {
			continue
		}
		var rest []api.Int
		for k, x := range row {
			if k != c {
				rest = append(rest, x)
			}
		}
		out = append(out, rest)
	}
	return out
}
