package prime

// bases are enough for Miller's and Rabin's way below 4759123141 (Jaeschke).
var bases = [3]uint32{2, 7, 61}

// passes: does an odd n above 4 pass for a prime with each of the bases?
func passes(n uint32) bool {
	for _, b := range bases {
		if b%n != 0 && !passesWith(b, n) {
			return false
		}
	}
	return true
}

// passesWith: b^(n-1) is 1, and no square root of 1 but 1 and -1 comes up on the way.
func passesWith(b, n uint32) bool {
	odd, twos := n-1, 0
	for ; odd%2 == 0; odd /= 2 {
		twos++
	}
	x := power(b, uint64(odd), n)
	if x == 1 {
		return true
	}
	for range twos {
		if x == n-1 {
			return true
		}
		x = times(x, x, n)
	}
	return false
}
