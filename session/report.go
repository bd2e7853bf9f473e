package session

import (
	"math"
	"strconv"

	"simile/api"
	"simile/bareiss"
	"simile/commute"
	"simile/frob"
	"simile/minpoly"
	"simile/numeral"
	"simile/qmat"
	"simile/rat"
	"simile/route"
	"simile/simil"
)

// command is a word's: how many matrices it asks for, whether it names a road, and what it tells.
type command struct {
	least, most int
	onRoad      bool
	tell        func(l line, m []api.Mat) []string
}

// commands: by their words.
func commands() map[string]command {
	return map[string]command{
		"frobenius":   {1, 1, false, line.frobenius},
		"similar":     {2, 2, false, line.similar},
		"char":        {1, 1, false, line.char},
		"route":       {1, 1, true, line.char},
		"minpoly":     {1, 1, false, line.minpoly},
		"centraliser": {1, math.MaxInt, false, line.centraliser},
		"rank":        {1, 1, false, line.rank},
		"det":         {1, 1, false, line.det},
		"inverse":     {1, 1, false, line.inverse},
		"key":         {1, 1, false, line.key},
	}
}

// report: what a line tells.
func (l line) report() []string {
	var all []api.Mat
	for _, text := range l.texts {
		m, e := matrix(text)
		if e != api.OK {
			return failed(e)
		}
		all = append(all, m)
	}
	for _, m := range all {
		if len(m.Num) != len(all[0].Num) {
			return failed(api.ErrShape)
		}
	}
	return commands()[l.word].tell(l, all)
}

// failed: the report of an error.
func failed(e api.Errno) []string { return []string{"error " + strconv.Itoa(int(e))} }

func (l line) frobenius(m []api.Mat) []string {
	f, _ := frob.Form(m[0])
	var out []string
	for _, p := range f.Polys {
		out = append(out, "factor "+row(p))
	}
	return append(out, "form "+rows(f.F), "by "+rows(f.T), "back "+rows(f.Inv))
}

func (l line) similar(m []api.Mat) []string {
	yes, s, inverse, _ := simil.Similar(m[0], m[1])
	if yes {
		return []string{"yes", "by " + rows(s), "back " + rows(inverse)}
	}
	place, f, g, _, _ := simil.Differ(m[0], m[1])
	return []string{"no " + strconv.Itoa(place), "first " + row(f), "second " + row(g)}
}

// char: of a road that is certified the certificate, too.
func (l line) char(m []api.Mat) []string {
	name := l.road
	if name == "" {
		name = route.Names()[0]
	}
	a, _ := route.Ask(name, m[0])
	out := []string{"poly " + row(a.Poly())}
	if p, ok := a.(route.Proof); ok {
		c := p.Cert()
		out = append(out, "den "+numeral.PrintInt(c.D), "bound "+numeral.PrintInt(c.Bound))
		for _, x := range c.Pairs {
			out = append(out, "prime "+words(append([]uint32{x.P}, x.C...)))
		}
	}
	return out
}

func (l line) minpoly(m []api.Mat) []string {
	f, _ := minpoly.Of(m[0])
	return []string{"poly " + row(f)}
}

func (l line) centraliser(m []api.Mat) []string {
	basis, _ := commute.Basis(m[0])
	out := []string{"basis " + strconv.Itoa(len(basis))}
	for _, x := range basis {
		out = append(out, "member "+rows(x))
	}
	for _, x := range m[1:] {
		numbers, ok, _ := commute.Coordinates(m[0], x)
		if ok {
			out = append(out, "coords "+row(numbers))
		} else {
			out = append(out, "no")
		}
	}
	return out
}

func (l line) rank(m []api.Mat) []string {
	k, _ := bareiss.Rank(m[0])
	return []string{"rank " + strconv.Itoa(k)}
}

func (l line) det(m []api.Mat) []string {
	x, _ := bareiss.Det(m[0])
	return []string{"det " + row([]api.Rat{x})}
}

func (l line) inverse(m []api.Mat) []string {
	x, e := bareiss.Inverse(m[0])
	if e != api.OK {
		return failed(e)
	}
	return []string{"inverse " + rows(x)}
}

func (l line) key(m []api.Mat) []string {
	text, _ := simil.Key(m[0])
	return []string{"key " + text}
}

// row: numbers as a text.
func row(l []api.Rat) string {
	out, _ := numeral.PrintRow(l...)
	return out
}

// rows: a matrix as a text.
func rows(m api.Mat) string {
	l, _ := qmat.Rows(m)
	out, _ := numeral.PrintMatrix(l...)
	return out
}

// words: numbers modulo a prime as a text.
func words(l []uint32) string {
	out := ""
	for i, x := range l {
		if i > 0 {
			out += " "
		}
		out += strconv.FormatUint(uint64(x), 10)
	}
	return out
}

// matrix: of a text; ErrBadNumber, ErrNotSquare, ErrTooBig.
func matrix(text string) (api.Mat, api.Errno) {
	short, long := shortened(text)
	l, _, _, e := numeral.Matrix(short)
	if e != api.OK {
		return api.Mat{}, api.ErrBadNumber
	}
	for _, numbers := range l {
		if len(numbers) != len(l) {
			return api.Mat{}, api.ErrNotSquare
		}
		long = long || areLong(numbers)
	}
	if long || len(l) > api.MaxDim {
		return api.Mat{}, api.ErrTooBig
	}
	return qmat.From(l...)
}

// shortened: the text with a 1 for each number that has too many digits, and whether there is one: so a number that is
// none is told, wherever it stands.
func shortened(text string) (string, bool) {
	out, from := "", 0
	for place, word := range numeral.Words(text) {
		if _, e := numeral.Frac(word); e == api.ErrTooBig {
			out += text[from:place] + "1"
			from = place + len(word)
		}
	}
	return out + text[from:], from > 0
}

// areLong: has one of the numbers, as they are written, too many bits?
func areLong(l []api.Rat) bool {
	one := rat.Of(1).Den
	for _, x := range l {
		bits, _ := rat.Height(api.Rat{Num: x.Num, Den: one}, api.Rat{Num: x.Den, Den: one})
		if bits > api.MaxBits {
			return true
		}
	}
	return false
}
