package numeral

import (
	"iter"
	"unicode/utf8"

	"simile/api"
	"simile/nat"
)

// A rune's kind.
const (
	other = iota
	minus
	bar
	gap
	comma
	rowEnd
)

// kindOf tells a rune's kind.
func kindOf(r rune) int {
	switch r {
	case 0x002d:
		fallthrough
	case 0x2212:
		return minus
	case 0x002f:
		fallthrough
	case 0x2044:
		fallthrough
	case 0x2215:
		return bar
	case 0x0020:
		fallthrough
	case 0x0009:
		fallthrough
	case 0x00a0:
		fallthrough
	case 0x2009:
		return gap
	case 0x002c:
		return comma
	case 0x003b:
		fallthrough
	case 0x000a:
		return rowEnd
	}
	return other
}

func partsFields(r rune) bool { return kindOf(r) == gap }
func partsCommas(r rune) bool { return kindOf(r) == comma }
func partsRows(r rune) bool   { return kindOf(r) == rowEnd }

func partsWords(r rune) bool {
	switch kindOf(r) {
	case gap, comma, rowEnd:
		return true
	}
	return false
}

// wrong is what a text is given up with: which number of a row, and its error.
type wrong struct {
	number int
	fault  api.Errno
}

// parts are what a number's text is made of: the digits' values ahead of the bar and behind it.
type parts struct {
	negative, barred bool
	over, under      []uint8
}

// scan takes a text apart; it gives up one that is no integer's, nor, where bars may be, a fraction's.
func scan(s string, base int, bars bool) parts {
	var p parts
	for i, r := range s {
		switch kindOf(r) {
		case minus:
			if i > 0 {
				panic(wrong{fault: api.ErrBadNumber})
			}
			p.negative = true
		case bar:
			if !bars || p.barred || len(p.over) == 0 {
				panic(wrong{fault: api.ErrBadNumber})
			}
			p.barred = true
		default:
			p.take(digit(r, base))
		}
	}
	if len(p.over) == 0 || p.barred && allNoughts(p.under) {
		panic(wrong{fault: api.ErrBadNumber})
	}
	if len(p.over)+len(p.under) > api.MaxDigits {
		panic(wrong{fault: api.ErrTooBig})
	}
	return p
}

// take puts a digit where it belongs.
func (p *parts) take(d uint8) {
	if p.barred {
		p.under = append(p.under, d)
	} else {
		p.over = append(p.over, d)
	}
}

// numerator: the integer ahead of the bar.
func (p *parts) numerator(base int) api.Int {
	mag := value(p.over, base)
	return api.Int{Neg: p.negative && len(mag) > 0, Mag: mag}
}

// digit: what a rune is worth in a base.
func digit(r rune, base int) uint8 {
	d := rune(base)
	switch {
	case '0' <= r && r <= '9':
		d = r - '0'
	case 'a' <= r && r <= 'z':
		d = r - 'a' + 10
	case 'A' <= r && r <= 'Z':
		d = r - 'A' + 10
	}
	if d >= rune(base) {
		panic(wrong{fault: api.ErrBadNumber})
	}
	return uint8(d)
}

func allNoughts(l []uint8) bool {
	for _, d := range l {
		if d != 0 {
			return false
		}
	}
	return true
}

// wordDigits: so many digits of any base up to 36 make less than 2^63.
const wordDigits = 12

// value: the number of digits, by halves.
func value(l []uint8, base int) api.Nat {
	if len(l) <= wordDigits {
		sum := uint64(0)
		for _, d := range l {
			sum = sum*uint64(base) + uint64(d)
		}
		return nat.Of(sum)
	}
	low := len(l) / 2
	scale, _ := nat.Pow(nat.Of(uint64(base)), low)
	return nat.Add(nat.Mul(value(l[:len(l)-low], base), scale), value(l[len(l)-low:], base))
}

// row reads a row's text; it gives up one that is none.
func row(s string) []api.Rat {
	var out []api.Rat
	commas := 0
	for at, field := range pieces(s, partsCommas) {
		ahead := len(out)
		for _, word := range pieces(field, partsFields) {
			if word == "" {
				continue
			}
			r, e := Frac(word)
			if e != api.OK {
				panic(wrong{len(out) + 1, e})
			}
			out = append(out, r)
		}
		if at+len(field) < len(s) {
			commas++
		}
		if commas > 0 && len(out) == ahead {
			panic(wrong{len(out) + 1, api.ErrBadRow})
		}
	}
	return out
}

// pieces tells what stands between the runes that part a text, with its place; it may be nothing.
func pieces(s string, parts func(r rune) bool) iter.Seq2[int, string] {
	return func(yield func(int, string) bool) {
		from := 0
		for i, r := range s {
			if !parts(r) {
				continue
			}
			if !yield(from, s[from:i]) {
				return
			}
			from = i + utf8.RuneLen(r)
		}
		yield(from, s[from:])
	}
}
