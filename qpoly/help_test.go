package qpoly_test

import (
	"math/big"
	"math/rand"
	"testing"

	"simile/api"
	"simile/rat"
	"simile/zint"
)

// poly is a polynomial of math/big, without noughts at the top.
type poly []*big.Rat

// large tells what an integer is to math/big.
func large(a api.Int) *big.Int {
	text := make([]byte, 0, 4*len(a.Mag))
	for i := len(a.Mag) - 1; i >= 0; i-- {
		text = append(text, byte(a.Mag[i]>>24), byte(a.Mag[i]>>16), byte(a.Mag[i]>>8), byte(a.Mag[i]))
	}
	out := new(big.Int).SetBytes(text)
	if a.Neg {
		out.Neg(out)
	}
	return out
}

func broken(a api.Rat) *big.Rat { return new(big.Rat).SetFrac(large(a.Num), large(a.Den)) }

func trimmed(a poly) poly {
	for len(a) > 0 && a[len(a)-1].Sign() == 0 {
		a = a[:len(a)-1]
	}
	return a
}

func list(a api.Poly) poly {
	var out poly
	for _, x := range a {
		out = append(out, broken(x))
	}
	return trimmed(out)
}

// of: a polynomial of integers, that of x^0 first.
func of(l ...int64) api.Poly {
	var out api.Poly
	for _, n := range l {
		out = append(out, rat.Of(n))
	}
	return out
}

// someRat tells a fraction in any form.
func someRat(r *rand.Rand) api.Rat {
	sign := int64(1 - 2*r.Intn(2))
	return api.Rat{Num: zint.Of(int64(r.Intn(13) - 6)), Den: zint.Of(sign * int64(r.Intn(6)+1))}
}

// some tells a polynomial of at most so many coefficients, in any form.
func some(r *rand.Rand, most int) api.Poly {
	out := make(api.Poly, r.Intn(most+1))
	for i := range out {
		if out[i] = someRat(r); r.Intn(8) == 0 {
			out[i].Num.Mag = append(out[i].Num.Mag, r.Uint32(), r.Uint32(), 0)
		}
	}
	for range r.Intn(3) {
		out = append(out, api.Rat{Num: api.Int{Neg: true}, Den: zint.Of(-3)})
	}
	return out
}

// normal: no noughts at the top, no sign of 0, lowest terms.
func normal(a api.Rat) bool {
	for _, x := range []api.Int{a.Num, a.Den} {
		if n := len(x.Mag); n == 0 && x.Neg || n > 0 && x.Mag[n-1] == 0 {
			return false
		}
	}
	q := broken(a)
	return q.Num().Cmp(large(a.Num)) == 0 && q.Denom().Cmp(large(a.Den)) == 0
}

// want holds an answer against what it must be, and asks for the normal form.
func want(t *testing.T, what string, got api.Poly, e api.Errno, w poly) {
	t.Helper()
	ok := e == api.OK && len(got) == len(w)
	for i := 0; ok && i < len(w); i++ {
		ok = normal(got[i]) && broken(got[i]).Cmp(w[i]) == 0
	}
	if !ok {
		t.Errorf("%s: %v, %d, want %v", what, list(got), e, w)
	}
}

// wantRat is want of a fraction.
func wantRat(t *testing.T, what string, got api.Rat, e api.Errno, w *big.Rat) {
	t.Helper()
	if e != api.OK || !normal(got) || broken(got).Cmp(w) != 0 {
		t.Errorf("%s: %v, %d, want %v", what, got, e, w)
	}
}

// fault asks for an error and nothing beside it.
func fault(t *testing.T, what string, e, w api.Errno, beside ...api.Poly) {
	t.Helper()
	if e != w {
		t.Errorf("%s: error %d, want %d", what, e, w)
	}
	for _, x := range beside {
		if len(x) > 0 {
			t.Errorf("%s: %v beside an error", what, x)
		}
	}
}

// sum: a + c b.
func sum(a, b poly, c int64) poly {
	out := make(poly, max(len(a), len(b)))
	for i := range out {
		out[i] = new(big.Rat)
		if i < len(a) {
			out[i].Add(out[i], a[i])
		}
		if i < len(b) {
			out[i].Add(out[i], new(big.Rat).Mul(b[i], big.NewRat(c, 1)))
		}
	}
	return trimmed(out)
}

func product(a, b poly) poly {
	if len(a) == 0 || len(b) == 0 {
		return nil
	}
	out := make(poly, len(a)+len(b)-1)
	for i := range out {
		out[i] = new(big.Rat)
	}
	for i, x := range a {
		for k, y := range b {
			out[i+k].Add(out[i+k], new(big.Rat).Mul(x, y))
		}
	}
	return trimmed(out)
}

func monic(a poly) poly {
	if len(a) == 0 {
		return nil
	}
	return product(a, poly{new(big.Rat).Inv(a[len(a)-1])})
}

func value(a poly, x *big.Rat) *big.Rat {
	out := new(big.Rat)
	for i := len(a) - 1; i >= 0; i-- {
		out.Add(out.Mul(out, x), a[i])
	}
	return out
}

// rest: what a leaves by b.
func rest(a, b poly) poly {
	for len(a) >= len(b) {
		digit := make(poly, len(a)-len(b)+1)
		for i := range digit {
			digit[i] = new(big.Rat)
		}
		digit[len(digit)-1] = new(big.Rat).Quo(a[len(a)-1], b[len(b)-1])
		a = sum(a, product(digit, b), -1)
	}
	return a
}

// common: the monic greatest common divisor.
func common(a, b poly) poly {
	for len(b) > 0 {
		a, b = b, rest(a, b)
	}
	return monic(a)
}

func slope(a poly) poly {
	var out poly
	for i := 1; i < len(a); i++ {
		out = append(out, new(big.Rat).Mul(a[i], big.NewRat(int64(i), 1)))
	}
	return out
}
