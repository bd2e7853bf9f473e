package nat_test

import (
	"math/big"
	"math/rand"
	"slices"
	"testing"

	"simile/api"
)

// large tells what a number is to math/big.
func large(a api.Nat) *big.Int {
	text := make([]byte, 0, 4*len(a))
	for i := len(a) - 1; i >= 0; i-- {
		text = append(text, byte(a[i]>>24), byte(a[i]>>16), byte(a[i]>>8), byte(a[i]))
	}
	return new(big.Int).SetBytes(text)
}

// number tells what a number of math/big is here.
func number(x *big.Int) api.Nat {
	text := x.Bytes()
	out := make(api.Nat, (len(text)+3)/4)
	for i := range text {
		out[i/4] |= uint32(text[len(text)-1-i]) << (8 * (i % 4))
	}
	return out
}

// power2: 2^n.
func power2(n uint) *big.Int { return new(big.Int).Lsh(big.NewInt(1), n) }

// some tells a number of at most so many limbs: often with limbs at their ends, or with noughts at the top.
func some(r *rand.Rand, limbs int) api.Nat {
	out := make(api.Nat, r.Intn(limbs+1))
	kind := r.Intn(4)
	for i := range out {
		switch {
		case kind == 0:
			out[i] = 0xffffffff
		case kind == 1 && r.Intn(2) == 0:
			out[i] = 0
		case kind == 2:
			out[i] = []uint32{0, 1, 0x7fffffff, 0x80000000, 0xffffffff}[r.Intn(5)]
		default:
			out[i] = r.Uint32()
		}
	}
	for range r.Intn(3) {
		out = append(out, 0)
	}
	return out
}

// want holds an answer against what math/big says, and asks for the normal form.
func want(t *testing.T, what string, got api.Nat, w *big.Int) {
	t.Helper()
	if !slices.Equal(got, number(w)) {
		t.Errorf("%s: %v, want %v", what, got, number(w))
	}
}

// fault asks for an error and nothing beside it.
func fault(t *testing.T, what string, e, w api.Errno, beside ...api.Nat) {
	t.Helper()
	if e != w {
		t.Errorf("%s: error %d, want %d", what, e, w)
	}
	for _, x := range beside {
		if len(x) > 0 {
			t.Errorf("%s: %v beside an error", what, x)
		}
	}
}
