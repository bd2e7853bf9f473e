package zint_test

import (
	"math/big"
	"math/rand"
	"testing"

	"simile/api"
	"simile/zint"
)

// large tells what an integer is to math/big.
func large(a api.Int) *big.Int {
	text := make([]byte, 0, 4*len(a.Mag))
	for i := len(a.Mag) - 1; i >= 0; i-- {
		text = append(text, byte(a.Mag[i]>>24), byte(a.Mag[i]>>16), byte(a.Mag[i]>>8), byte(a.Mag[i]))
	}
	out := new(big.Int).SetBytes(text)
	if a.Neg {
		out.Neg(out)
	}
	return out
}

// some tells an integer of at most so many limbs, in any form.
func some(r *rand.Rand, limbs int) api.Int {
	out := api.Int{Neg: r.Intn(2) == 0, Mag: make(api.Nat, r.Intn(limbs+1))}
	kind := r.Intn(3)
	for i := range out.Mag {
		switch kind {
		case 0:
			out.Mag[i] = []uint32{0, 1, 2, 3, 0xffffffff}[r.Intn(5)]
		case 1:
			out.Mag[i] = uint32(r.Intn(4))
		default:
			out.Mag[i] = r.Uint32()
		}
	}
	for range r.Intn(3) {
		out.Mag = append(out.Mag, 0)
	}
	return out
}

// want holds an answer against what it must be, and asks for the normal form.
func want(t *testing.T, what string, got api.Int, w *big.Int) {
	t.Helper()
	n := len(got.Mag)
	if large(got).Cmp(w) != 0 || n == 0 && got.Neg || n > 0 && got.Mag[n-1] == 0 {
		t.Errorf("%s: %v, want %v", what, got, w)
	}
}

// fault asks for an error and nothing beside it.
func fault(t *testing.T, what string, e, w api.Errno, beside ...api.Int) {
	t.Helper()
	if e != w {
		t.Errorf("%s: error %d, want %d", what, e, w)
	}
	for _, x := range beside {
		if len(x.Mag) > 0 || x.Neg {
			t.Errorf("%s: %v beside an error", what, x)
		}
	}
}

func of(n int64) api.Int { return zint.Of(n) }
