package nat

import "math/bits"

// A product of long numbers goes by a Fourier transform modulo the prime 2^64 - 2^32 + 1: modulo it
// there are roots of 1 of the order 2^32, and sums of products of digits of 16 bits stay below it.
const (
	field      = 0xffffffff00000001
	spill      = 1<<32 - 1 // 2^64 modulo the prime
	generator  = 7
	digitBits  = 16
	wordDigits = 64 / digitBits
)

// byTransform: a b by the transform of their digits.
func byTransform(a, b []uint64) []uint64 {
	size := 1
	for size < wordDigits*(len(a)+len(b)) {
		size *= 2
	}
	roots := rootsOf(size, fieldPow(generator, (field-1)/uint64(size)))
	x, y := digitsOf(a, size), digitsOf(b, size)
	scatter(x, roots)
	scatter(y, roots)
	for i := range x {
		x[i] = fieldMul(x[i], y[i])
	}
	gather(x, rootsOf(size, fieldPow(generator, field-1-(field-1)/uint64(size))))
	return carried(x, fieldPow(uint64(size), field-2), len(a)+len(b))
}

// digitsOf: the digits of a, and noughts up to size.
func digitsOf(a []uint64, size int) []uint64 {
	out := make([]uint64, size)
	for i, x := range a {
		for k := range wordDigits {
			out[wordDigits*i+k] = x >> (digitBits * k) & (1<<digitBits - 1)
		}
	}
	return out
}

// carried: the number whose digits are x times scale, in n words.
func carried(x []uint64, scale uint64, n int) []uint64 {
	out := make([]uint64, n)
	carry, over := uint64(0), uint64(0)
	for i := range n * wordDigits {
		carry, over = bits.Add64(carry, fieldMul(x[i], scale), 0)
		out[i/wordDigits] |= carry & (1<<digitBits - 1) << (digitBits * (i % wordDigits))
		carry = carry>>digitBits | over<<(64-digitBits)
	}
	return out
}

// rootsOf: the first half of the powers of a root of 1 of the order size.
func rootsOf(size int, root uint64) []uint64 {
	out := make([]uint64, max(size/2, 1))
	out[0] = 1
	for i := 1; i < len(out); i++ {
		out[i] = fieldMul(out[i-1], root)
	}
	return out
}

// scatter transforms x; its values come out in the order of the reversed bits, which gather asks for.
func scatter(x, roots []uint64) {
	for half := len(x) / 2; half >= 1; half /= 2 {
		step := len(roots) / half
		for from := 0; from < len(x); from += 2 * half {
			low, high := x[from:from+half], x[from+half:from+2*half]
			for i, u := range low {
				v := high[i]
				low[i] = fieldAdd(u, v)
				high[i] = fieldMul(fieldSub(u, v), roots[i*step])
			}
		}
	}
}

// gather undoes scatter with the inverse roots, but for a factor of len(x).
func gather(x, roots []uint64) {
	for half := 1; half < len(x); half *= 2 {
		step := len(roots) / half
		for from := 0; from < len(x); from += 2 * half {
			low, high := x[from:from+half], x[from+half:from+2*half]
			for i, u := range low {
				v := fieldMul(high[i], roots[i*step])
				low[i] = fieldAdd(u, v)
				high[i] = fieldSub(u, v)
			}
		}
	}
}

// What goes beyond 2^64 comes back as spill, without a branch: it would be foretold wrongly half of the time.

func fieldAdd(a, b uint64) uint64 {
	sum, over := bits.Add64(a, b, 0)
	return reduced(sum + over*spill)
}

func fieldSub(a, b uint64) uint64 {
	rest, less := bits.Sub64(a, b, 0)
	return rest - less*spill
}

// fieldMul takes 2^64 as spill, and 2^96 as -1, as they are modulo the field's prime.
func fieldMul(a, b uint64) uint64 {
	high, low := bits.Mul64(a, b)
	rest, less := bits.Sub64(low, high>>32, 0)
	rest -= less * spill
	middle := high & (1<<32 - 1)
	sum, over := bits.Add64(rest, middle<<32-middle, 0)
	return reduced(sum + over*spill)
}

func reduced(a uint64) uint64 {
	if a >= field {
		return a - field
	}
	return a
}

func fieldPow(a, k uint64) uint64 {
	out := uint64(1)
	for ; k > 0; k /= 2 {
		if k%2 == 1 {
			out = fieldMul(out, a)
		}
		a = fieldMul(a, a)
	}
	return out
}
