package modpoly_test

import (
	"math"
	"math/rand"
	"slices"
	"testing"

	"simile/api"
)

const greatest = 4294967291

var primes = []uint32{2, 3, 5, 7, 11, 101, 65537, 2147483647, greatest}

// some tells a polynomial of at most so many coefficients, in any form.
func some(r *rand.Rand, most int) api.ModPoly {
	out := make(api.ModPoly, r.Intn(most+1))
	kind := r.Intn(3)
	for i := range out {
		switch kind {
		case 0:
			out[i] = uint32(r.Intn(3))
		case 1:
			out[i] = math.MaxUint32 - uint32(r.Intn(10))
		default:
			out[i] = r.Uint32()
		}
	}
	for range r.Intn(2) {
		out = append(out, 0)
	}
	return out
}

// reduced: a as it is normal.
func reduced(a api.ModPoly, p uint32) api.ModPoly {
	out := api.ModPoly{}
	for _, x := range a {
		out = append(out, x%p)
	}
	for len(out) > 0 && out[len(out)-1] == 0 {
		out = out[:len(out)-1]
	}
	return out
}

func times(x, y, p uint32) uint32 { return uint32(uint64(x) * uint64(y) % uint64(p)) }

// combined: a + c b.
func combined(a, b api.ModPoly, c, p uint32) api.ModPoly {
	out := make(api.ModPoly, max(len(a), len(b)))
	for i := range out {
		sum := uint64(0)
		if i < len(a) {
			sum += uint64(a[i] % p)
		}
		if i < len(b) {
			sum += uint64(times(b[i], c%p, p))
		}
		out[i] = uint32(sum % uint64(p))
	}
	return reduced(out, p)
}

// product: term by term.
func product(a, b api.ModPoly, p uint32) api.ModPoly {
	out := make(api.ModPoly, len(a)+len(b))
	for i, x := range a {
		for k, y := range b {
			out[i+k] = uint32((uint64(out[i+k]) + uint64(times(x, y, p))) % uint64(p))
		}
	}
	return reduced(out, p)
}

func value(a api.ModPoly, x, p uint32) uint32 {
	out := uint64(0)
	for i := len(a) - 1; i >= 0; i-- {
		out = (out*uint64(x%p) + uint64(a[i]%p)) % uint64(p)
	}
	return uint32(out)
}

// all tells all polynomials of that degree, monic.
func all(d int, p uint32) []api.ModPoly {
	out := []api.ModPoly{{1}}
	for range d {
		var more []api.ModPoly
		for _, a := range out {
			for c := range p {
				more = append(more, append(api.ModPoly{c}, a...))
			}
		}
		out = more
	}
	return out
}

// want holds an answer against what it must be, just as it is.
func want(t *testing.T, what string, got api.ModPoly, e api.Errno, w api.ModPoly) {
	t.Helper()
	if e != api.OK || !slices.Equal(got, w) {
		t.Errorf("%s: %v, %d, want %v", what, got, e, w)
	}
}

// fault asks for an error and nothing beside it.
func fault(t *testing.T, what string, e, w api.Errno, beside ...api.ModPoly) {
	t.Helper()
	if e != w {
		t.Errorf("%s: error %d, want %d", what, e, w)
	}
	for _, x := range beside {
		if len(x) > 0 {
			t.Errorf("%s: %v beside an error", what, x)
		}
	}
}
