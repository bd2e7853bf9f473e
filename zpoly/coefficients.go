package zpoly

import (
	"simile/api"
	"simile/zint"
)

// mapped: what f makes of each one, in new memory.
func mapped[L ~[]A, A, B any](l L, f func(A) B) []B {
	if len(l) == 0 {
		return nil
	}
	out := make([]B, len(l))
	for i, x := range l {
		out[i] = f(x)
	}
	return out
}

// trim: a without the noughts at the end, in a's own memory.
func trim(a api.IntPoly) api.IntPoly {
	for len(a) > 0 && zint.Sign(a[len(a)-1]) == 0 {
		a = a[:len(a)-1]
	}
	return a
}

// top: the last coefficient of what is trimmed; 0, if there is none.
func top(a api.IntPoly) api.Int {
	if len(a) == 0 {
		return api.Int{}
	}
	return a[len(a)-1]
}

// at: a coefficient; 0 past the end.
func at(a api.IntPoly, i int) api.Int {
	if i >= len(a) {
		return api.Int{}
	}
	return a[i]
}

// together: what f makes of each two coefficients.
func together(a, b api.IntPoly, f func(x, y api.Int) api.Int) api.IntPoly {
	out := make(api.IntPoly, max(len(a), len(b)))
	for i := range out {
		out[i] = f(at(a, i), at(b, i))
	}
	return trim(out)
}

// over: a by a number that divides it.
func over(a api.IntPoly, c api.Int) api.IntPoly {
	return mapped(a, func(x api.Int) api.Int {
		out, _ := zint.Exact(x, c)
		return out
	})
}

// power: x to the k, whatever its size.
func power(x api.Int, k int) api.Int {
	if k == 0 {
		return zint.Of(1)
	}
	out := power(x, k/2)
	out = zint.Mul(out, out)
	if k%2 == 1 {
		out = zint.Mul(out, x)
	}
	return out
}

// powers: x^0 to x^(n-1).
func powers(x api.Int, n int) []api.Int {
	out := make([]api.Int, n)
	out[0] = zint.Of(1)
	for i := 1; i < n; i++ {
		out[i] = zint.Mul(out[i-1], x)
	}
	return out
}
