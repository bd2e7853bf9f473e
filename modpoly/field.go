package modpoly

import (
	"math"
	"math/bits"

	"simile/api"
	"simile/prime"
)

// field reckons modulo its prime, with polynomials that are normal.
type field struct {
	p     uint64
	spill uint64 // 2^64 modulo p
}

// fieldOf: ErrPrime, if p is no prime.
func fieldOf(p uint32) (field, api.Errno) {
	if !prime.Is(p) {
		return field{}, api.ErrPrime
	}
	return field{uint64(p), (math.MaxUint64%uint64(p) + 1) % uint64(p)}, api.OK
}

// trim: a list without the noughts at the end, in its own memory.
func trim[L ~[]E, E ~uint32](l L) L {
	for len(l) > 0 && l[len(l)-1] == 0 {
		l = l[:len(l)-1]
	}
	return l
}

// normal: a in new memory, coefficients below p and none at the top 0.
func (f field) normal(a api.ModPoly) api.ModPoly {
	out := make(api.ModPoly, len(a))
	copy(out, a)
	for i, x := range out {
		out[i] = uint32(uint64(x) % f.p)
	}
	return trim(out)
}

func (f field) inverse(x uint32) uint32 {
	out, _ := prime.Inv(x, uint32(f.p))
	return out
}

func (f field) times(x, y uint32) uint32 {
	return uint32(uint64(x) * uint64(y) % f.p)
}

func (f field) negative(x uint32) uint32 {
	if x == 0 {
		return 0
	}
	return uint32(f.p) - x
}

func (f field) sum(a, b api.ModPoly) api.ModPoly {
	if len(a) < len(b) {
		a, b = b, a
	}
	out := make(api.ModPoly, len(a))
	copy(out, a)
	for i, y := range b {
		out[i] = uint32((uint64(out[i]) + uint64(y)) % f.p)
	}
	return trim(out)
}

func (f field) difference(a, b api.ModPoly) api.ModPoly {
	return f.sum(a, f.scaled(b, uint32(f.p-1)))
}

func (f field) scaled(a api.ModPoly, c uint32) api.ModPoly {
	out := make(api.ModPoly, len(a))
	for i, x := range a {
		out[i] = f.times(x, c)
	}
	return trim(out)
}

// shifted: a times x^k.
func shifted(a api.ModPoly, k int) api.ModPoly {
	if len(a) == 0 {
		return nil
	}
	out := make(api.ModPoly, k+len(a))
	copy(out[k:], a)
	return out
}

func (f field) product(a, b api.ModPoly) api.ModPoly {
	if len(a) == 0 || len(b) == 0 {
		return nil
	}
	out := make(api.ModPoly, len(a)+len(b)-1)
	for k := range out {
		from := max(0, k-len(b)+1)
		to := min(k, len(a)-1)
		sum := uint64(0)
		for i := from; i <= to; i++ {
			var over uint64
			sum, over = bits.Add64(sum, uint64(a[i])*uint64(b[k-i]), 0)
			if over != 0 { // what is left is below the product that was added, so this can't go over
				sum += f.spill
			}
		}
		out[k] = uint32(sum % f.p)
	}
	return out
}

// divide: quotient and rest; b is not 0.
func (f field) divide(a, b api.ModPoly) (api.ModPoly, api.ModPoly) {
	rest := make(api.ModPoly, len(a))
	copy(rest, a)
	if len(a) < len(b) {
		return nil, rest
	}
	q := make(api.ModPoly, len(a)-len(b)+1)
	unit := f.inverse(b[len(b)-1])
	for k := len(q) - 1; k >= 0; k-- {
		digit := f.times(rest[k+len(b)-1], unit)
		if digit == 0 {
			continue
		}
		q[k] = digit
		less := uint64(f.negative(digit))
		for i, y := range b {
			rest[k+i] = uint32((uint64(rest[k+i]) + less*uint64(y)) % f.p)
		}
	}
	return q, trim(rest)
}

func (f field) rest(a, b api.ModPoly) api.ModPoly {
	_, r := f.divide(a, b)
	return r
}

// over: a by b, which divides it.
func (f field) over(a, b api.ModPoly) api.ModPoly {
	q, _ := f.divide(a, b)
	return q
}

func (f field) monic(a api.ModPoly) api.ModPoly {
	if len(a) == 0 {
		return nil
	}
	return f.scaled(a, f.inverse(a[len(a)-1]))
}

func (f field) gcd(a, b api.ModPoly) api.ModPoly {
euclid:
	for {
		if len(b) == 0 {
			break euclid
		}
		a, b = b, f.rest(a, b)
	}
	return f.monic(a)
}

// bezout: g and s; s is of a degree below that of b over g, if neither a nor b is 0.
func (f field) bezout(a, b api.ModPoly) (api.ModPoly, api.ModPoly) {
	var s, s2 api.ModPoly // each of Euclid's rests is a times its s, but for a multiple of b
	if len(a) > 0 {
		s = api.ModPoly{1}
	}
euclid:
	for {
		if len(b) == 0 {
			break euclid
		}
		q, r := f.divide(a, b)
		a, b = b, r
		s, s2 = s2, f.difference(s, f.product(q, s2))
	}
	if len(a) == 0 {
		return nil, nil
	}
	unit := f.inverse(a[len(a)-1])
	return f.scaled(a, unit), f.scaled(s, unit)
}

func (f field) eval(a api.ModPoly, x uint32) uint32 {
	out := uint64(0)
	for i := len(a) - 1; i >= 0; i-- {
		out = (out*uint64(x) + uint64(a[i])) % f.p
	}
	return uint32(out)
}

func (f field) derivative(a api.ModPoly) api.ModPoly {
	if len(a) == 0 {
		return nil
	}
	out := make(api.ModPoly, len(a)-1)
	for i := range out {
		out[i] = uint32(uint64(i+1) % f.p * uint64(a[i+1]) % f.p)
	}
	return trim(out)
}

// power: the rest of a^e by m.
func (f field) power(a api.ModPoly, e uint64, m api.ModPoly) api.ModPoly {
	out := f.rest(api.ModPoly{1}, m)
	a = f.rest(a, m)
	for i := bits.Len64(e) - 1; i >= 0; i-- {
		out = f.rest(f.product(out, out), m)
		if e>>i&1 == 1 {
			out = f.rest(f.product(out, a), m)
		}
	}
	return out
}
