package prime

import (
	"simile/api"
	"simile/zint"
)

// Add: a + b modulo p.
func Add(a, b, p uint32) (uint32, api.Errno) {
	if !Is(p) {
		return 0, api.ErrPrime
	}
	return uint32((uint64(a) + uint64(b)) % uint64(p)), api.OK
}

// Sub: a - b modulo p.
func Sub(a, b, p uint32) (uint32, api.Errno) {
	if !Is(p) {
		return 0, api.ErrPrime
	}
	return uint32((uint64(a) + uint64(p-b%p)) % uint64(p)), api.OK
}

// Mul: a b modulo p.
func Mul(a, b, p uint32) (uint32, api.Errno) {
	if !Is(p) {
		return 0, api.ErrPrime
	}
	return times(a, b, p), api.OK
}

// Neg: 0 - a modulo p.
func Neg(a, p uint32) (uint32, api.Errno) {
	return Sub(0, a, p)
}

// Pow: a to the e modulo p.
func Pow(a uint32, e uint64, p uint32) (uint32, api.Errno) {
	if !Is(p) {
		return 0, api.ErrPrime
	}
	return power(a, e, p), api.OK
}

// Inv: the inverse of a modulo p.
func Inv(a, p uint32) (uint32, api.Errno) {
	return Quo(1, a, p)
}

// Quo: a times the inverse of b modulo p.
func Quo(a, b, p uint32) (uint32, api.Errno) {
	switch {
	case !Is(p):
		return 0, api.ErrPrime
	case b%p == 0:
		return 0, api.ErrZero
	}
	return times(a, inverse(b%p, p), p), api.OK
}

// Of: an integer modulo p.
func Of(x api.Int, p uint32) (uint32, api.Errno) {
	if !Is(p) {
		return 0, api.ErrPrime
	}
	return zint.Mod(x, p)
}

// OfRat: a fraction modulo p.
func OfRat(r api.Rat, p uint32) (uint32, api.Errno) {
	if !Is(p) {
		return 0, api.ErrPrime
	}
	if zint.Sign(r.Den) == 0 {
		return 0, api.ErrDen
	}
	under, _ := zint.Mod(r.Den, p)
	if under == 0 { // the numerator may have p as a divisor, too
		common := zint.Gcd(r.Num, r.Den)
		r.Num, _ = zint.Exact(r.Num, common)
		r.Den, _ = zint.Exact(r.Den, common)
		under, _ = zint.Mod(r.Den, p)
	}
	over, _ := zint.Mod(r.Num, p)
	return Quo(over, under, p)
}

// Legendre: 0 of 0, 1 of another square modulo p, else -1.
func Legendre(a, p uint32) (int, api.Errno) {
	switch {
	case !Is(p):
		return 0, api.ErrPrime
	case a%p == 0:
		return 0, api.OK
	case isSquare(a, p):
		return 1, api.OK
	}
	return -1, api.OK
}

// Sqrt: the lesser root of a square modulo p.
func Sqrt(a, p uint32) (uint32, api.Errno) {
	switch {
	case !Is(p):
		return 0, api.ErrPrime
	case a%p == 0:
		return 0, api.OK
	case !isSquare(a, p):
		return 0, api.ErrPrimeNone
	case p == 2:
		return 1, api.OK
	}
	r := root(a%p, p)
	return min(r, p-r), api.OK
}

// Order: the least e from 1 on with a^e = 1 modulo p.
func Order(a, p uint32) (uint32, api.Errno) {
	switch {
	case !Is(p):
		return 0, api.ErrPrime
	case a%p == 0:
		return 0, api.ErrZero
	}
	return order(a, p, Factors(p-1)), api.OK
}

// Root: the least number whose order is p - 1.
func Root(p uint32) (uint32, api.Errno) {
	if !Is(p) {
		return 0, api.ErrPrime
	}
	factors := Factors(p - 1)
	g := uint32(1)
	for order(g, p, factors) < p-1 {
		g++
	}
	return g, api.OK
}

// times: a b modulo p.
func times(a, b, p uint32) uint32 {
	return uint32(uint64(a) * uint64(b) % uint64(p))
}

// power: a to the e modulo p, p above 1.
func power(a uint32, e uint64, p uint32) uint32 {
	if e == 0 {
		return 1
	}
	half := power(a, e/2, p)
	half = times(half, half, p)
	if e%2 == 1 {
		half = times(half, a, p)
	}
	return half
}

// inverse: that of a, which is not 0 and below p.
func inverse(a, p uint32) uint32 {
	r, r2 := int64(p), int64(a)
	x, x2 := int64(0), int64(1) // each r is a times its x modulo p
euclid:
	for {
		if r2 == 1 {
			break euclid
		}
		q := r / r2
		r, r2 = r2, r-q*r2
		x, x2 = x2, x-q*x2
	}
	if x2 < 0 {
		x2 += int64(p)
	}
	return uint32(x2)
}

// isSquare: is a, which is not 0 modulo p, a square?
func isSquare(a, p uint32) bool {
	return p == 2 || power(a, uint64(p-1)/2, p) == 1
}

// root goes by Tonelli's and Shanks's way; p is odd, and a a square that is not 0.
func root(a, p uint32) uint32 {
	odd, twos := p-1, 0
	for ; odd%2 == 0; odd /= 2 {
		twos++
	}
	other := uint32(2)
	for isSquare(other, p) {
		other++
	}
	step := power(other, uint64(odd), p)
	out := power(a, uint64(odd/2)+1, p)
	rest := power(a, uint64(odd), p) // out^2 is a times rest, whose order is a power of 2
	for rest != 1 {
		k, square := 0, rest
		for ; square != 1; k++ {
			square = times(square, square, p)
		}
		for ; twos > k+1; twos-- {
			step = times(step, step, p)
		}
		out = times(out, step, p)
		step = times(step, step, p)
		rest = times(rest, step, p)
		twos = k
	}
	return out
}

// order: that of a, which is not 0 modulo p; the factors are those of p - 1.
func order(a, p uint32, factors []api.Factor) uint32 {
	e := p - 1
	for _, f := range factors {
		for e%f.P == 0 && power(a, uint64(e/f.P), p) == 1 {
			e /= f.P
		}
	}
	return e
}
