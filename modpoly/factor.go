package modpoly

import (
	"cmp"
	"slices"

	"simile/api"
)

// factors: the irreducible divisors of a monic a, as often as they divide it, sorted.
func (f field) factors(a api.ModPoly) []api.ModPoly {
	var out []api.ModPoly
	f.eachFree(a, func(free api.ModPoly, times int) {
		f.eachDegree(free, func(part api.ModPoly, d int) {
			f.eachOf(part, d, func(irreducible api.ModPoly) {
				for range times {
					out = append(out, f.normal(irreducible))
				}
			})
		})
	})
	slices.SortFunc(out, func(a, b api.ModPoly) int {
		return cmp.Or(cmp.Compare(len(a), len(b)), slices.Compare(a, b))
	})
	return out
}

// eachFree tells polynomials without square factors, and how often they stand in a monic a.
func (f field) eachFree(a api.ModPoly, tell func(free api.ModPoly, times int)) {
	var level func(a api.ModPoly, scale int)
	level = func(a api.ModPoly, scale int) {
		common := f.gcd(a, f.derivative(a))
		once := f.over(a, common)
		for times := 1; len(once) > 1; times++ {
			more := f.gcd(once, common)
			if free := f.over(once, more); len(free) > 1 {
				tell(free, times*scale)
			}
			once, common = more, f.over(common, more)
		}
		if len(common) > 1 { // a power of p: its derivative is 0
			level(f.root(common), scale*int(f.p))
		}
	}
	level(a, 1)
}

// root: the polynomial whose p-th power has coefficients at the multiples of p alone.
func (f field) root(a api.ModPoly) api.ModPoly {
	p := int(f.p)
	out := make(api.ModPoly, (len(a)-1)/p+1)
	for i := range out {
		out[i] = a[i*p]
	}
	return out
}

// eachDegree tells, of a monic a without square factors, the products of all irreducible divisors of each degree.
func (f field) eachDegree(a api.ModPoly, tell func(part api.ModPoly, d int)) {
	x := api.ModPoly{0, 1}
	power := f.rest(x, a)
	for d := 1; 2*d < len(a); d++ {
		power = f.power(power, f.p, a)
		part := f.gcd(a, f.difference(power, x))
		if len(part) > 1 {
			tell(part, d)
			a = f.over(a, part)
			power = f.rest(power, a)
		}
	}
	if len(a) > 1 {
		tell(a, len(a)-1)
	}
}

// isIrreducible: of a monic a of degree at least 1.
func (f field) isIrreducible(a api.ModPoly) bool {
	x := api.ModPoly{0, 1}
	power := x
	for d := 1; 2*d < len(a); d++ {
		power = f.power(power, f.p, a)
		if len(f.gcd(a, f.difference(power, x))) > 1 {
			return false
		}
	}
	return true
}

// eachOf tells the irreducible divisors of a, a monic product of unlike ones of degree d.
func (f field) eachOf(a api.ModPoly, d int, tell func(irreducible api.ModPoly)) {
	var halve func(a api.ModPoly)
	halve = func(a api.ModPoly) {
		if len(a)-1 <= d {
			tell(a)
			return
		}
		part := f.partOf(a, d)
		halve(part)
		halve(f.over(a, part))
	}
	if len(a) > 1 {
		halve(a)
	}
}

// partOf: a divisor of a, a monic product of two and more unlike irreducible ones of degree d, but neither 1 nor a.
// The trace of x^k is a number modulo each of them, and for some k below 2d not the same one modulo all, since the
// sums of powers of the roots tell the divisors apart. So the sum of the trace and a number is a square modulo some alone.
func (f field) partOf(a api.ModPoly, d int) api.ModPoly {
	monomial := api.ModPoly{1}
	for {
		monomial = f.rest(shifted(monomial, 1), a)
		trace := f.trace(monomial, a, d)
		if len(trace) < 2 {
			continue
		}
		for c := range uint32(f.p) {
			value := f.sum(trace, f.normal(api.ModPoly{c}))
			if part := f.gcd(a, value); isPart(part, a) {
				return part
			}
			square := f.power(value, (f.p-1)/2, a)
			if part := f.gcd(a, f.difference(square, api.ModPoly{1})); isPart(part, a) {
				return part
			}
		}
	}
}

func isPart(part, a api.ModPoly) bool { return len(part) > 1 && len(part) < len(a) }

// trace: the sum of y, y^p, y^(p^2), .. of d of them, modulo a.
func (f field) trace(y, a api.ModPoly, d int) api.ModPoly {
	out := y
	for range d - 1 {
		y = f.power(y, f.p, a)
		out = f.sum(out, y)
	}
	return out
}

// roots: the places where a is 0; a is not 0.
func (f field) roots(a api.ModPoly) []uint32 {
	if len(a) == 1 {
		return nil
	}
	x := api.ModPoly{0, 1}
	all := f.gcd(a, f.difference(f.power(x, f.p, a), x))
	var out []uint32
	f.eachOf(all, 1, func(linear api.ModPoly) {
		out = append(out, f.negative(linear[0]))
	})
	slices.Sort(out)
	return out
}
