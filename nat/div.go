package nat

import "math/bits"

// From how many words of the divisor, and of the quotient, on a division by halves pays.
const divideHalvesFrom = 200

// quotient: a over b, and what is left; the top words of both are not 0, and a is not below b.
func quotient(a, b []uint64) ([]uint64, []uint64) {
	if len(b) == 1 {
		return shortQuotient(a, b[0])
	}
	up := uint(bits.LeadingZeros64(b[len(b)-1]))
	u, v := shiftWords(a, up), shiftWords(b, up)[:len(b)]
	var q []uint64
	if len(b) < divideHalvesFrom || len(a)-len(b) < divideHalvesFrom {
		q = longQuotient(u, v)
	} else {
		q, u = blockQuotient(u, v)
	}
	return q, unshiftWords(u, up)
}

// shortQuotient divides by a word.
func shortQuotient(a []uint64, b uint64) ([]uint64, []uint64) {
	q, r := make([]uint64, len(a)), uint64(0)
	for i := len(a) - 1; i >= 0; i-- {
		q[i], r = bits.Div64(r, a[i], b)
	}
	return q, []uint64{r}
}

// shiftWords: a times 2^n, n below 64, in one word more.
func shiftWords(a []uint64, n uint) []uint64 {
	out := make([]uint64, len(a)+1)
	for i, x := range a {
		out[i] |= x << n
		out[i+1] = x >> (64 - n)
	}
	return out
}

// unshiftWords: a over 2^n, n below 64.
func unshiftWords(a []uint64, n uint) []uint64 {
	out := make([]uint64, len(a))
	for i, x := range a {
		out[i] |= x >> n
		if i > 0 {
			out[i-1] |= x << (64 - n)
		}
	}
	return out
}

// longQuotient divides as on paper: u becomes what is left. The top bit of v is 1, and v has two words or more.
func longQuotient(u, v []uint64) []uint64 {
	n := len(v)
	q := make([]uint64, max(len(u)-n, 0))
	for k := len(q) - 1; k >= 0; k-- {
		digit := guess(u[k+n], u[k+n-1], u[k+n-2], v[n-1], v[n-2])
		lack := takeRow(u[k:k+n], v, digit)
		top := u[k+n]
		u[k+n] = 0
		if top < lack { // the guess is one too great, rarely
			addInto(u[k:k+n], v)
			digit--
		}
		q[k] = digit
	}
	return q
}

// guess: the quotient's digit by the three top words of what is divided and the two of the divisor; at most one too great.
func guess(top, next, third, v1, v2 uint64) uint64 {
	digit, rest := ^uint64(0), next+v1
	if top < v1 {
		digit, rest = bits.Div64(top, next, v1)
	} else if rest < v1 {
		return digit
	}
better:
	for {
		high, low := bits.Mul64(digit, v2)
		if high < rest || high == rest && low <= third {
			break better
		}
		digit--
		rest += v1
		if rest < v1 {
			break better
		}
	}
	return digit
}

// blockQuotient divides by Burnikel's and Ziegler's way: in blocks as long as the divisor, each by halves.
// The top bit of v is 1.
func blockQuotient(u, v []uint64) ([]uint64, []uint64) {
	size := len(v)
	halvings := 0
	for size >= divideHalvesFrom {
		size, halvings = (size+1)/2, halvings+1
	}
	size <<= halvings
	pad := size - len(v) // words of noughts below, so that the divisor can be halved again and again
	v = raise(v, pad)
	u = trimWords(raise(u, pad))
	blocks := (len(u) + size - 1) / size
	q, rest := make([]uint64, blocks*size), []uint64(nil)
	for k := blocks - 1; k >= 0; k-- {
		block := u[k*size : min((k+1)*size, len(u))]
		var digits []uint64
		digits, rest = twoByOne(joined(block, rest, size), v)
		copy(q[k*size:], digits)
	}
	return q, cut(rest, pad, len(rest))
}

// raise: a with n words of noughts below it.
func raise(a []uint64, n int) []uint64 {
	out := make([]uint64, n+len(a))
	copy(out[n:], a)
	return out
}

// joined: low, and high from the word at on.
func joined(low, high []uint64, at int) []uint64 {
	out := make([]uint64, at+len(high))
	copy(out, low)
	copy(out[at:], high)
	return trimWords(out)
}

// cut: the words of a from one place to another one, as far as there are such.
func cut(a []uint64, from, to int) []uint64 {
	to = min(to, len(a))
	if from >= to {
		return nil
	}
	return trimWords(a[from:to])
}

// twoByOne divides by v; u is less than v with as many noughts behind it as v has words.
func twoByOne(u, v []uint64) ([]uint64, []uint64) {
	n := len(v)
	if n < divideHalvesFrom || n%2 == 1 {
		rest := make([]uint64, max(len(u), n)+1)
		copy(rest, u)
		q := longQuotient(rest, v)
		return trimWords(q), trimWords(rest)
	}
	half := n / 2
	high, rest := threeByTwo(cut(u, half, 2*n), v)
	low, rest := threeByTwo(joined(cut(u, 0, half), rest, half), v)
	return joined(low, high, half), rest
}

// threeByTwo divides by v; u is less than v with half as many noughts behind it as v has words.
func threeByTwo(u, v []uint64) ([]uint64, []uint64) {
	half := len(v) / 2
	top := v[half:]
	var q, rest []uint64
	if high := cut(u, half, len(u)); compareWords(cut(high, half, len(high)), top) < 0 {
		q, rest = twoByOne(high, top)
	} else {
		q, rest = greatest(half), sumOf(high, nil)
		takeFrom(rest[half:], top)
		addInto(rest, top)
	}
	rest = append(joined(cut(u, 0, half), rest, half), make([]uint64, len(v)+2)...)
	taken := trimWords(product(q, v[:half]))
	q = joined(q, nil, half)
	less := takeFrom(rest, taken)
	for less != 0 { // at most twice
		less -= addInto(rest, v)
		takeFrom(q, []uint64{1})
	}
	return trimWords(q), trimWords(rest)
}

// greatest: n words of ones.
func greatest(n int) []uint64 {
	out := make([]uint64, n)
	for i := range out {
		out[i] = ^uint64(0)
	}
	return out
}

// compareWords: -1, 0 or 1; the top words are not 0.
func compareWords(a, b []uint64) int {
	if len(a) != len(b) {
		return order(len(a) < len(b))
	}
	for i := len(a) - 1; i >= 0; i-- {
		if a[i] != b[i] {
			return order(a[i] < b[i])
		}
	}
	return 0
}
