package nat

import "math/bits"

// wordGcd: of two words, by halving.
func wordGcd(a, b uint64) uint64 {
	if a == 0 || b == 0 {
		return a | b
	}
	twos := bits.TrailingZeros64(a | b)
	a >>= bits.TrailingZeros64(a)
	for b != 0 {
		b >>= bits.TrailingZeros64(b)
		if a > b {
			a, b = b, a
		}
		b -= a
	}
	return a << twos
}

// commonDivisor goes by Lehmer's way: many of Euclid's steps by the top words alone, and then all words at once.
// What it is given it keeps for itself.
func commonDivisor(a, b []uint64) []uint64 {
	if compareWords(a, b) < 0 {
		a, b = b, a
	}
	for len(b) > 1 {
		s := simulate(a, b)
		if s.v0 == 0 { // the top words tell nothing
			_, rest := quotient(a, b)
			a, b = b, trimWords(rest)
			continue
		}
		b = append(b, make([]uint64, len(a)-len(b))...)
		a, b = s.apply(a, b)
		a, b = trimWords(a), trimWords(b)
	}
	if len(b) == 0 {
		return a
	}
	_, rest := shortQuotient(a, b[0])
	return []uint64{wordGcd(b[0], rest[0])}
}

// steps is what several of Euclid's steps do: a becomes u0 a + v0 b, b becomes u1 a + v1 b,
// where v0 and u1 are below 0, if even, and else u0 and v1.
type steps struct {
	u0, v0, u1, v1 uint64
	even           bool
}

// simulate tells Euclid's steps that are sure by the top words, by Collins's rule.
func simulate(a, b []uint64) steps {
	n := len(a)
	up := uint(bits.LeadingZeros64(a[n-1]))
	x := a[n-1]<<up | a[n-2]>>(64-up)
	y := uint64(0)
	switch len(b) {
	case n:
		y = b[n-1]<<up | b[n-2]>>(64-up)
	case n - 1:
		y = b[n-2] >> (64 - up)
	}
	s := steps{u1: 1, even: false}
	u0, u1, u2 := uint64(0), uint64(1), uint64(0)
	v0, v1, v2 := uint64(0), uint64(0), uint64(1)
	for y >= v2 && x-y >= v1+v2 {
		q := x / y
		x, y = y, x%y
		u0, u1, u2 = u1, u2, u1+q*u2
		v0, v1, v2 = v1, v2, v1+q*v2
		s.even = !s.even
	}
	s.u0, s.u1, s.v0, s.v1 = u0, u1, v0, v1
	return s
}

// apply: what the steps make of a and b, in their own memory; they are equally long.
func (s steps) apply(a, b []uint64) ([]uint64, []uint64) {
	if s.even {
		mix(a, b, s.u0, s.v0, s.v1, s.u1)
		return a, b
	}
	mix(b, a, s.v0, s.u0, s.u1, s.v1)
	return b, a
}

// mix makes k a - l b of a, and m b - n a of b, neither of them below 0.
func mix(a, b []uint64, k, l, m, n uint64) {
	b = b[:len(a)]
	var up, down, less, up2, down2, less2 uint64
	for i, x := range a {
		y := b[i]
		var plus, minus uint64
		plus, up = timesPlus(x, k, up)
		minus, down = timesPlus(y, l, down)
		a[i], less = bits.Sub64(plus, minus, less)
		plus, up2 = timesPlus(y, m, up2)
		minus, down2 = timesPlus(x, n, down2)
		b[i], less2 = bits.Sub64(plus, minus, less2)
	}
}

// timesPlus: a b + c, as its lower word and its upper one.
func timesPlus(a, b, c uint64) (uint64, uint64) {
	high, low := bits.Mul64(a, b)
	low, over := bits.Add64(low, c, 0)
	return low, high + over
}
