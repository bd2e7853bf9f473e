package rat_test

import (
	"math/big"
	"math/rand"
	"testing"

	"simile/api"
	"simile/zint"
)

// large tells what an integer is to math/big.
func large(a api.Int) *big.Int {
	text := make([]byte, 0, 4*len(a.Mag))
	for i := len(a.Mag) - 1; i >= 0; i-- {
		text = append(text, byte(a.Mag[i]>>24), byte(a.Mag[i]>>16), byte(a.Mag[i]>>8), byte(a.Mag[i]))
	}
	out := new(big.Int).SetBytes(text)
	if a.Neg {
		out.Neg(out)
	}
	return out
}

// broken tells what a fraction is to math/big.
func broken(a api.Rat) *big.Rat { return new(big.Rat).SetFrac(large(a.Num), large(a.Den)) }

// someInt tells an integer of at most so many limbs, in any form.
func someInt(r *rand.Rand, limbs int) api.Int {
	out := api.Int{Neg: r.Intn(2) == 0, Mag: make(api.Nat, r.Intn(limbs+1))}
	small := r.Intn(3) > 0
	for i := range out.Mag {
		if out.Mag[i] = r.Uint32(); small {
			out.Mag[i] = uint32(r.Intn(30))
		}
	}
	for range r.Intn(2) {
		out.Mag = append(out.Mag, 0)
	}
	return out
}

// some tells a fraction in any form.
func some(r *rand.Rand) api.Rat {
	for {
		if den := someInt(r, 2); zint.Sign(den) != 0 {
			return api.Rat{Num: someInt(r, 2), Den: den}
		}
	}
}

// normal: no noughts at the top, and no sign of 0.
func normal(a api.Int) bool {
	n := len(a.Mag)
	return n == 0 && !a.Neg || n > 0 && a.Mag[n-1] != 0
}

// want holds an answer against what it must be, and asks for the normal form.
func want(t *testing.T, what string, got api.Rat, e api.Errno, w *big.Rat) {
	t.Helper()
	if e != api.OK || large(got.Num).Cmp(w.Num()) != 0 || large(got.Den).Cmp(w.Denom()) != 0 || !normal(got.Num) || !normal(got.Den) {
		t.Errorf("%s: %v, %d, want %v", what, got, e, w)
	}
}

// wantInt is want of an integer.
func wantInt(t *testing.T, what string, got api.Int, e api.Errno, w *big.Int) {
	t.Helper()
	if e != api.OK || large(got).Cmp(w) != 0 || !normal(got) {
		t.Errorf("%s: %v, %d, want %v", what, got, e, w)
	}
}

// fault asks for an error and nothing beside it.
func fault(t *testing.T, what string, got api.Rat, e, w api.Errno) {
	t.Helper()
	if e != w || len(got.Num.Mag) > 0 || len(got.Den.Mag) > 0 || got.Num.Neg || got.Den.Neg {
		t.Errorf("%s: %v, error %d, want %d", what, got, e, w)
	}
}

// of: n over d, just as it is said.
func of(n, d int64) api.Rat { return api.Rat{Num: zint.Of(n), Den: zint.Of(d)} }
