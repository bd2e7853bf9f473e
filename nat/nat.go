// Package nat is layer 1: natural numbers of any length, in limbs of 32 bits. See shared/doc/01-nat.md.
package nat

import (
	"iter"
	"math/bits"

	"simile/api"
)

// Norm: without the noughts at the end.
func Norm(a api.Nat) api.Nat {
	a = trim(a)
	if len(a) == 0 {
		return nil
	}
	out := make(api.Nat, len(a))
	copy(out, a)
	return out
}

// Of: a number of 64 bits.
func Of(n uint64) api.Nat {
	return narrow([]uint64{n})
}

// Uint64: a number as one of 64 bits.
func Uint64(a api.Nat) (uint64, bool) {
	a = trim(a)
	if len(a) > 2 {
		return 0, false
	}
	return word(a), true
}

// Len: how many bits a number has.
func Len(a api.Nat) int {
	a = trim(a)
	if len(a) == 0 {
		return 0
	}
	return 32*(len(a)-1) + bits.Len32(a[len(a)-1])
}

// Bit: the bit of 2^i.
func Bit(a api.Nat, i int) uint {
	if i < 0 || i/32 >= len(a) {
		return 0
	}
	return uint(a[i/32]>>(i%32)) & 1
}

// Trail: how many noughts stand at the low end of its bits.
func Trail(a api.Nat) int {
	for i, x := range a {
		if x != 0 {
			return 32*i + bits.TrailingZeros32(x)
		}
	}
	return 0
}

// Bits: the places of the bits that are 1, from the lowest.
func Bits(a api.Nat) iter.Seq[int] {
	kept := Norm(a) // the caller may change a before the places are asked for
	return func(yield func(int) bool) {
		for i, x := range kept {
			for ; x != 0; x &= x - 1 {
				if !yield(32*i + bits.TrailingZeros32(x)) {
					return
				}
			}
		}
	}
}

// Cmp: -1, 0 or 1.
func Cmp(a, b api.Nat) int {
	a, b = trim(a), trim(b)
	if len(a) != len(b) {
		return order(len(a) < len(b))
	}
	for i := len(a) - 1; i >= 0; i-- {
		if a[i] != b[i] {
			return order(a[i] < b[i])
		}
	}
	return 0
}

// order: Cmp of two that are not the same.
func order(less bool) int {
	if less {
		return -1
	}
	return 1
}

// Add: the sum.
func Add(a, b api.Nat) api.Nat {
	a, b = trim(a), trim(b)
	if len(a) < len(b) {
		a, b = b, a
	}
	out := make(api.Nat, len(a)+1)
	next := adder()
	for i, y := range b {
		out[i] = next(a[i], y)
	}
	for i := len(b); i < len(a); i++ {
		out[i] = next(a[i], 0)
	}
	out[len(a)] = next(0, 0)
	return trim(out)
}

// Sub: the difference.
func Sub(a, b api.Nat) (api.Nat, api.Errno) {
	a, b = trim(a), trim(b)
	if Cmp(a, b) < 0 {
		return nil, api.ErrNatLess
	}
	out := make(api.Nat, len(a))
	next := subtracter()
	for i, y := range b {
		out[i] = next(a[i], y)
	}
	for i := len(b); i < len(a); i++ {
		out[i] = next(a[i], 0)
	}
	return trim(out), api.OK
}

// Mul: the product.
func Mul(a, b api.Nat) api.Nat {
	a, b = trim(a), trim(b)
	if len(a) == 0 || len(b) == 0 {
		return nil
	}
	if len(a) < len(b) {
		a, b = b, a
	}
	switch {
	case len(a) <= 2:
		high, low := bits.Mul64(word(a), word(b))
		return narrow([]uint64{low, high})
	case len(b) == 1:
		return shortMul(a, b[0])
	}
	return narrow(product(wide(a), wide(b)))
}

// shortMul: the product with a limb.
func shortMul(a api.Nat, w uint32) api.Nat {
	out := make(api.Nat, len(a)+1)
	next := scaler(w)
	for i, x := range a {
		out[i] = next(x)
	}
	out[len(a)] = next(0)
	return trim(out)
}

// Div: the quotient and what is left.
func Div(a, b api.Nat) (api.Nat, api.Nat, api.Errno) {
	a, b = trim(a), trim(b)
	switch {
	case len(b) == 0:
		return nil, nil, api.ErrZero
	case Cmp(a, b) < 0:
		return nil, Norm(a), api.OK
	case len(a) <= 2:
		return Of(word(a) / word(b)), Of(word(a) % word(b)), api.OK
	}
	q, r := quotient(wide(a), wide(b))
	return narrow(q), narrow(r), api.OK
}

// Gcd: the greatest common divisor.
func Gcd(a, b api.Nat) api.Nat {
	a, b = trim(a), trim(b)
	if len(a) <= 2 && len(b) <= 2 {
		return Of(wordGcd(word(a), word(b)))
	}
	return narrow(commonDivisor(wide(a), wide(b)))
}

// Left: a times 2^n.
func Left(a api.Nat, n int) (api.Nat, api.Errno) {
	a = trim(a)
	switch {
	case n < 0:
		return nil, api.ErrArg
	case len(a) == 0:
		return nil, api.OK
	case Len(a) > api.MaxNatBits || n > api.MaxNatBits-Len(a):
		return nil, api.ErrTooBig
	}
	return shiftUp(a, n), api.OK
}

// shiftUp: a times 2^n, whatever its size.
func shiftUp(a api.Nat, n int) api.Nat {
	out := make(api.Nat, n/32+len(a)+1)
	next := lifter(uint(n % 32))
	for i, x := range a {
		out[n/32+i] = next(x)
	}
	out[len(out)-1] = next(0)
	return trim(out)
}

// Right: a over 2^n, rounded down.
func Right(a api.Nat, n int) (api.Nat, api.Errno) {
	a = trim(a)
	switch {
	case n < 0:
		return nil, api.ErrArg
	case n/32 >= len(a):
		return nil, api.OK
	}
	out := make(api.Nat, len(a)-n/32)
	next := dropper(uint(n % 32))
	for i := len(out) - 1; i >= 0; i-- {
		out[i] = next(a[n/32+i])
	}
	return trim(out), api.OK
}

// Pow: a to the k.
func Pow(a api.Nat, k int) (api.Nat, api.Errno) {
	a = trim(a)
	switch {
	case k < 0:
		return nil, api.ErrArg
	case k == 0:
		return Of(1), api.OK
	case Len(a) <= 1:
		return Norm(a), api.OK
	case k > (api.MaxNatBits-1)/(Len(a)-1): // a^k has k times (Len(a) - 1) bits and more
		return nil, api.ErrTooBig
	}
	twos := Trail(a)
	odd, _ := Right(a, twos)
	out := power(odd, k)
	if Len(out)+k*twos > api.MaxNatBits {
		return nil, api.ErrTooBig
	}
	return shiftUp(out, k*twos), api.OK
}

// power: a to the k, k above 0, by squares from the exponent's top.
func power(a api.Nat, k int) api.Nat {
	out := Norm(a)
	for i := bits.Len(uint(k)) - 2; i >= 0; i-- {
		out = Mul(out, out)
		if k>>i&1 == 1 {
			out = Mul(out, a)
		}
	}
	return out
}

// Sqrt: the root, rounded down.
func Sqrt(a api.Nat) api.Nat {
	a = trim(a)
	if len(a) <= 2 {
		return Of(wordRoot(word(a)))
	}
	// The root of the upper half of the bits is right in a quarter of them; one step of Newton's doubles that.
	drop := (Len(a) - 1) / 4
	high, _ := Right(a, 2*drop)
	root := shiftUp(Sqrt(high), drop)
	other, _, _ := Div(a, root)
	root, _ = Right(Add(root, other), 1)
	for Cmp(Mul(root, root), a) > 0 {
		root, _ = Sub(root, Of(1))
	}
	return root
}

// wordRoot: the root of a word, rounded down, bit by bit from the top.
func wordRoot(n uint64) uint64 {
	root := uint64(0)
	for bit := uint64(1) << 31; bit > 0; bit >>= 1 {
		if try := root | bit; try*try <= n {
			root = try
		}
	}
	return root
}
