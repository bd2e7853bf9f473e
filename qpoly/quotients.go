package qpoly

import (
	"iter"

	"simile/api"
	"simile/rat"
	"simile/zint"
	"simile/zpoly"
)

// quotients is a polynomial whose coefficients are integers over one denominator, which is above 0.
type quotients struct {
	num api.IntPoly
	den api.Int
}

// read: polynomials over one denominator each; ErrDen, if one has a denominator that is 0.
func read(all ...api.Poly) ([]quotients, api.Errno) {
	out := make([]quotients, len(all))
	for i, a := range all {
		den, num, e := rat.Common(a...)
		if e != api.OK {
			return nil, e
		}
		out[i] = quotients{zpoly.Norm(num), den}
	}
	return out, api.OK
}

// told: in lowest terms, in new memory.
func (a quotients) told() api.Poly {
	if a.isZero() {
		return nil
	}
	out := make(api.Poly, a.degree()+1)
	for i := range out {
		out[i], _ = rat.Make(a.num[i], a.den)
	}
	return out
}

// folded: the list joined from the left.
func folded[T any](l []T, first T, join func(T, T) T) T {
	for _, x := range l {
		first = join(first, x)
	}
	return first
}

func one() quotients { return quotients{api.IntPoly{zint.Of(1)}, zint.Of(1)} }

func (a quotients) isZero() bool { return a.degree() < 0 }

func (a quotients) degree() int { return zpoly.Degree(a.num) }

// lead: of 0 it is 0.
func (a quotients) lead() api.Rat {
	out, _ := rat.Make(zpoly.Lead(a.num), a.den)
	return out
}

// over: num over den, which is not 0, without a number that divides both.
func over(num api.IntPoly, den api.Int) quotients {
	common := zint.Gcd(den, zpoly.Content(num))
	if zint.Sign(den) < 0 {
		common = zint.Neg(common)
	}
	num, _ = zpoly.Exact(num, api.IntPoly{common})
	den, _ = zint.Exact(den, common)
	return quotients{num, den}
}

func (a quotients) plus(b quotients) quotients {
	return over(zpoly.Add(zpoly.Scale(a.num, b.den), zpoly.Scale(b.num, a.den)), zint.Mul(a.den, b.den))
}

func (a quotients) minus(b quotients) quotients {
	return over(zpoly.Sub(zpoly.Scale(a.num, b.den), zpoly.Scale(b.num, a.den)), zint.Mul(a.den, b.den))
}

func (a quotients) times(b quotients) quotients {
	return over(zpoly.Mul(a.num, b.num), zint.Mul(a.den, b.den))
}

// by: quotient and rest; b is not 0.
func (a quotients) by(b quotients) (quotients, quotients) {
	if a.degree() < b.degree() {
		return quotients{den: zint.Of(1)}, a
	}
	q, r, _ := zpoly.Pseudo(a.num, b.num)
	scale := zint.Of(1)
	for range a.degree() - b.degree() + 1 {
		scale = zint.Mul(scale, zpoly.Lead(b.num))
	}
	den := zint.Mul(scale, a.den)
	return over(zpoly.Scale(q, b.den), den), over(r, den)
}

func (a quotients) monic() quotients {
	if a.isZero() {
		return a
	}
	return over(a.num, zpoly.Lead(a.num))
}

// primitive: the same but for a number, in integers that have no divisor in common.
func (a quotients) primitive() quotients {
	_, num := zpoly.Primitive(a.num)
	return quotients{num, zint.Of(1)}
}

// common: a greatest common divisor.
func (a quotients) common(b quotients) quotients {
	return quotients{zpoly.Gcd(a.primitive().num, b.primitive().num), zint.Of(1)}
}

// multiple: a least common multiple.
func (a quotients) multiple(b quotients) quotients {
	if a.isZero() || b.isZero() {
		return quotients{den: zint.Of(1)}
	}
	a, b = a.primitive(), b.primitive()
	rest, _ := zpoly.Exact(b.num, a.common(b).num)
	return quotients{zpoly.Mul(a.num, rest), zint.Of(1)}
}

// step is one of Euclid's: what is left but for a number, and the quotient over that number.
type step struct {
	quotient, rest quotients
	number         quotients
}

// euclid tells the steps from a and b, which is not 0, up to the last one that leaves something.
func euclid(a, b quotients) iter.Seq[step] {
	return func(yield func(step) bool) {
		for {
			q, r := a.by(b)
			if r.isZero() {
				return
			}
			rest := r.primitive()
			number, _ := one().by(quotients{api.IntPoly{zpoly.Lead(r.num)}, r.den})
			number = number.times(quotients{api.IntPoly{zpoly.Lead(rest.num)}, zint.Of(1)})
			if !yield(step{q, rest, number}) {
				return
			}
			a, b = b, rest
		}
	}
}

// bezout: the monic greatest common divisor, and what a is to be multiplied by.
func (a quotients) bezout(b quotients) (quotients, quotients) {
	if b.isZero() {
		if a.isZero() {
			return a, a
		}
		unit, _ := one().by(quotients{api.IntPoly{zpoly.Lead(a.num)}, a.den})
		return a.monic(), unit
	}
	u, u2 := one(), quotients{den: zint.Of(1)} // each rest is a times its u, but for a multiple of b
	last := b
	for s := range euclid(a, b) {
		u, u2 = u2, u.minus(s.quotient.times(u2)).times(s.number)
		last = s.rest
	}
	unit, _ := one().by(quotients{api.IntPoly{zpoly.Lead(last.num)}, last.den})
	return last.monic(), u2.times(unit)
}

// at: a at b.
func (a quotients) at(b quotients) quotients {
	var sum api.IntPoly
	scale := zint.Of(1) // b's denominator, as often as it is in the sum
	for i := a.degree(); i >= 0; i-- {
		sum = zpoly.Add(zpoly.Mul(sum, b.num), api.IntPoly{zint.Mul(a.num[i], scale)})
		if i > 0 {
			scale = zint.Mul(scale, b.den)
		}
	}
	return over(sum, zint.Mul(a.den, scale))
}

// value: the number that a polynomial of degree 0, or 0, is.
func value(a quotients) api.Rat {
	if a.isZero() {
		return rat.Of(0)
	}
	return a.lead()
}

// free tells the parts without square factors, by how often they stand, rising: Yun's way, in integers.
func (a quotients) free() iter.Seq2[int, quotients] {
	return func(yield func(int, quotients) bool) {
		all := a.primitive().num
		slope := zpoly.Derive(all)
		common := zpoly.Gcd(all, slope)
		left, _ := zpoly.Exact(all, common)
		slope, _ = zpoly.Exact(slope, common)
		for times := 1; zpoly.Degree(left) > 0; times++ {
			slope = zpoly.Sub(slope, zpoly.Derive(left))
			part := zpoly.Gcd(left, slope)
			if zpoly.Degree(part) > 0 && !yield(times, quotients{part, zint.Of(1)}) {
				return
			}
			left, _ = zpoly.Exact(left, part)
			slope, _ = zpoly.Exact(slope, part)
		}
	}
}
