package nat

import "simile/api"

// trim: a without the noughts at the end, in a's own memory.
func trim(a api.Nat) api.Nat {
	for len(a) > 0 && a[len(a)-1] == 0 {
		a = a[:len(a)-1]
	}
	return a
}

// trimWords: likewise, of words of 64 bits.
func trimWords(a []uint64) []uint64 {
	for len(a) > 0 && a[len(a)-1] == 0 {
		a = a[:len(a)-1]
	}
	return a
}

// word: a number of at most two limbs.
func word(a api.Nat) uint64 {
	switch len(a) {
	case 0:
		return 0
	case 1:
		return uint64(a[0])
	}
	return uint64(a[1])<<32 | uint64(a[0])
}

// wide packs two limbs into a word: a product of words costs a quarter of that of limbs.
func wide(a api.Nat) []uint64 {
	out := make([]uint64, (len(a)+1)/2)
	for i, x := range a {
		out[i/2] |= uint64(x) << (32 * (i % 2))
	}
	return out
}

// narrow undoes wide, and leaves no noughts at the end.
func narrow(w []uint64) api.Nat {
	w = trimWords(w)
	if len(w) == 0 {
		return nil
	}
	out := make(api.Nat, 2*len(w))
	for i, x := range w {
		out[2*i], out[2*i+1] = uint32(x), uint32(x>>32)
	}
	return trim(out)
}

// adder adds limb to limb; what does not fit goes over to the next one.
func adder() func(x, y uint32) uint32 {
	carry := uint64(0)
	return func(x, y uint32) uint32 {
		carry += uint64(x) + uint64(y)
		low := uint32(carry)
		carry >>= 32
		return low
	}
}

// subtracter takes limb from limb; what is lacking is taken from the next one.
func subtracter() func(x, y uint32) uint32 {
	borrow := uint64(0)
	return func(x, y uint32) uint32 {
		rest := uint64(x) - uint64(y) - borrow
		borrow = rest >> 63
		return uint32(rest)
	}
}

// scaler multiplies limbs by w; what does not fit goes over to the next one.
func scaler(w uint32) func(x uint32) uint32 {
	carry := uint64(0)
	return func(x uint32) uint32 {
		carry += uint64(x) * uint64(w)
		low := uint32(carry)
		carry >>= 32
		return low
	}
}

// lifter shifts limbs up by n below 32, from the lowest one on.
func lifter(n uint) func(x uint32) uint32 {
	carry := uint64(0)
	return func(x uint32) uint32 {
		carry |= uint64(x) << n
		low := uint32(carry)
		carry >>= 32
		return low
	}
}

// dropper shifts limbs down by n below 32, from the highest one on.
func dropper(n uint) func(x uint32) uint32 {
	carry := uint64(0)
	return func(x uint32) uint32 {
		carry = carry<<32 | uint64(x)
		return uint32(carry >> n)
	}
}
