package rat

import (
	"simile/api"
	"simile/nat"
	"simile/zint"
)

// faultOf: ErrDen, if one of all has a denominator that is 0.
func faultOf(l ...api.Rat) api.Errno {
	for _, a := range l {
		if zint.Sign(a.Den) == 0 {
			return api.ErrDen
		}
	}
	return api.OK
}

// answer hands on the fault of fractions, or what is reckoned with them.
func answer[T any](reckon func() T, l ...api.Rat) (T, api.Errno) {
	if e := faultOf(l...); e != api.OK {
		var none T
		return none, e
	}
	return reckon(), api.OK
}

// isOne: is it 1?
func isOne(a api.Int) bool {
	return nat.Len(a.Mag) == 1 && !a.Neg
}

// whole: an integer as a fraction.
func whole(n api.Int) api.Rat {
	return api.Rat{Num: n, Den: zint.Of(1)}
}

// upright: the same fraction with a denominator above 0.
func upright(num, den api.Int) (api.Int, api.Int) {
	if den.Neg {
		return zint.Neg(num), zint.Neg(den)
	}
	return num, den
}

// lowest: num over den, which is not 0, in lowest terms and new memory.
func lowest(num, den api.Int) api.Rat {
	num, den = upright(num, den)
	if common := zint.Gcd(den, num); !isOne(common) {
		num, _ = zint.Exact(num, common)
		den, _ = zint.Exact(den, common)
		return api.Rat{Num: num, Den: den}
	}
	return api.Rat{Num: zint.Norm(num), Den: zint.Norm(den)}
}
