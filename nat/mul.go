package nat

import "math/bits"

// From how many words of the shorter factor on a way pays.
const (
	halvesFrom    = 40
	transformFrom = 2800
)

// product: a b, in as many words as both have.
func product(a, b []uint64) []uint64 {
	if len(a) < len(b) {
		a, b = b, a
	}
	switch {
	case len(b) < halvesFrom:
		return longProduct(a, b)
	case len(a) > 2*len(b):
		return piecewise(a, b)
	case len(b) < transformFrom:
		return byHalves(a, b)
	}
	return byTransform(a, b)
}

// longProduct goes row by row, as on paper.
func longProduct(a, b []uint64) []uint64 {
	out := make([]uint64, len(a)+len(b))
	for i, w := range b {
		out[i+len(a)] = addRow(out[i:i+len(a)], a, w)
	}
	return out
}

// multiplier multiplies words by w and adds; what does not fit goes over to the next one.
func multiplier(w uint64) func(x, y uint64) uint64 {
	carry := uint64(0)
	return func(x, y uint64) uint64 {
		high, low := bits.Mul64(x, w)
		low, over := bits.Add64(low, y, 0)
		high += over
		low, over = bits.Add64(low, carry, 0)
		carry = high + over
		return low
	}
}

// addRow adds a times w to out, which is as long, and answers what goes beyond.
func addRow(out, a []uint64, w uint64) uint64 {
	out = out[:len(a)]
	next := multiplier(w)
	for i, x := range a {
		out[i] = next(x, out[i])
	}
	return next(0, 0)
}

// takeRow takes a times w from out, which is as long, and answers what is lacking.
func takeRow(out, a []uint64, w uint64) uint64 {
	out = out[:len(a)]
	carry := uint64(0)
	for i, x := range a {
		high, low := bits.Mul64(x, w)
		rest, less := bits.Sub64(out[i], low, 0)
		high += less
		out[i], less = bits.Sub64(rest, carry, 0)
		carry = high + less
	}
	return carry
}

// addInto adds a to out, as far as out goes, and answers what goes beyond.
func addInto(out, a []uint64) uint64 {
	carry := uint64(0)
	for i, x := range a {
		out[i], carry = bits.Add64(out[i], x, carry)
	}
	for i := len(a); carry != 0 && i < len(out); i++ {
		out[i], carry = bits.Add64(out[i], 0, carry)
	}
	return carry
}

// takeFrom takes a from out, as far as out goes, and answers what is lacking.
func takeFrom(out, a []uint64) uint64 {
	less := uint64(0)
	for i, x := range a {
		out[i], less = bits.Sub64(out[i], x, less)
	}
	for i := len(a); less != 0 && i < len(out); i++ {
		out[i], less = bits.Sub64(out[i], 0, less)
	}
	return less
}

// piecewise cuts the longer factor into pieces as long as the shorter one.
func piecewise(a, b []uint64) []uint64 {
	out := make([]uint64, len(a)+len(b))
	for at := 0; at < len(a); at += len(b) {
		piece := a[at:min(at+len(b), len(a))]
		addInto(out[at:], product(piece, b))
	}
	return out
}

// byHalves is Karatsuba's way: three products of halves in place of four.
func byHalves(a, b []uint64) []uint64 {
	half := (len(a) + 1) / 2
	if len(b) <= half {
		return piecewise(a, b)
	}
	low := product(a[:half], b[:half])
	high := product(a[half:], b[half:])
	mixed := product(sumOf(a[:half], a[half:]), sumOf(b[:half], b[half:]))
	takeFrom(mixed, low)
	takeFrom(mixed, high)
	out := make([]uint64, len(a)+len(b))
	copy(out, low)
	copy(out[2*half:], high)
	addInto(out[half:], trimWords(mixed))
	return out
}

// sumOf: a + b in new memory, a being at least as long.
func sumOf(a, b []uint64) []uint64 {
	out := make([]uint64, len(a)+1)
	copy(out, a)
	addInto(out, b)
	return out
}
