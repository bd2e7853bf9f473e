package zpoly_test

import (
	"math/big"
	"math/rand"
	"testing"

	"simile/api"
	"simile/zint"
)

// large tells what an integer is to math/big.
func large(a api.Int) *big.Int {
	text := make([]byte, 0, 4*len(a.Mag))
	for i := len(a.Mag) - 1; i >= 0; i-- {
		text = append(text, byte(a.Mag[i]>>24), byte(a.Mag[i]>>16), byte(a.Mag[i]>>8), byte(a.Mag[i]))
	}
	out := new(big.Int).SetBytes(text)
	if a.Neg {
		out.Neg(out)
	}
	return out
}

// list tells the coefficients to math/big, without noughts at the top.
func list(a api.IntPoly) []*big.Int {
	var out []*big.Int
	for _, x := range a {
		out = append(out, large(x))
	}
	for len(out) > 0 && out[len(out)-1].Sign() == 0 {
		out = out[:len(out)-1]
	}
	return out
}

// of: a polynomial by its coefficients, that of x^0 first.
func of(l ...int64) api.IntPoly {
	var out api.IntPoly
	for _, n := range l {
		out = append(out, zint.Of(n))
	}
	return out
}

// some tells a polynomial of at most so many coefficients, in any form.
func some(r *rand.Rand, most int) api.IntPoly {
	out := make(api.IntPoly, r.Intn(most+1))
	long := r.Intn(4) == 0
	for i := range out {
		out[i] = api.Int{Neg: r.Intn(2) == 0, Mag: api.Nat{uint32(r.Intn(9)), 0}}
		if long {
			out[i].Mag = api.Nat{r.Uint32(), r.Uint32()}
		}
	}
	for range r.Intn(3) {
		out = append(out, api.Int{Neg: r.Intn(2) == 0, Mag: make(api.Nat, r.Intn(2))})
	}
	return out
}

// normalInt: no noughts at the top, and no sign of 0.
func normalInt(a api.Int) bool {
	n := len(a.Mag)
	return n == 0 && !a.Neg || n > 0 && a.Mag[n-1] != 0
}

// want holds an answer against what it must be, and asks for the normal form.
func want(t *testing.T, what string, got api.IntPoly, w []*big.Int) {
	t.Helper()
	ok := len(got) == len(w) && (len(got) == 0 || zint.Sign(got[len(got)-1]) != 0)
	for i := 0; ok && i < len(w); i++ {
		ok = large(got[i]).Cmp(w[i]) == 0 && normalInt(got[i])
	}
	if !ok {
		t.Errorf("%s: %v, want %v", what, got, w)
	}
}

// wantInt is want of an integer.
func wantInt(t *testing.T, what string, got api.Int, w *big.Int) {
	t.Helper()
	if large(got).Cmp(w) != 0 || !normalInt(got) {
		t.Errorf("%s: %v, want %v", what, got, w)
	}
}

// product: by math/big.
func product(a, b []*big.Int) []*big.Int {
	if len(a) == 0 || len(b) == 0 {
		return nil
	}
	out := make([]*big.Int, len(a)+len(b)-1)
	for i := range out {
		out[i] = new(big.Int)
	}
	for i, x := range a {
		for k, y := range b {
			out[i+k].Add(out[i+k], new(big.Int).Mul(x, y))
		}
	}
	return out
}

// sylvester: the determinant of the Sylvester matrix, by fractions.
func sylvester(a, b []*big.Int) *big.Int {
	if len(a) == 0 || len(b) == 0 {
		return new(big.Int)
	}
	n := len(a) + len(b) - 2
	rows := make([][]*big.Rat, n)
	for i := range rows {
		rows[i] = make([]*big.Rat, n)
		l, at := a, i
		if i >= len(b)-1 {
			l, at = b, i-len(b)+1
		}
		for k := range rows[i] {
			rows[i][k] = new(big.Rat)
			if d := len(l) - 1 - (k - at); k >= at && d >= 0 {
				rows[i][k].SetInt(l[d])
			}
		}
	}
	return determinant(rows).Num()
}

func determinant(rows [][]*big.Rat) *big.Rat {
	out := big.NewRat(1, 1)
	for c := range rows {
		p := c
		for p < len(rows) && rows[p][c].Sign() == 0 {
			p++
		}
		if p == len(rows) {
			return new(big.Rat)
		}
		if p != c {
			rows[p], rows[c] = rows[c], rows[p]
			out.Neg(out)
		}
		out.Mul(out, rows[c][c])
		for i := c + 1; i < len(rows); i++ {
			f := new(big.Rat).Quo(rows[i][c], rows[c][c])
			for k := c; k < len(rows); k++ {
				rows[i][k].Sub(rows[i][k], new(big.Rat).Mul(f, rows[c][k]))
			}
		}
	}
	return out
}
