package prime_test

import (
	"math"
	"math/big"
	"math/rand"
	"slices"
	"testing"

	"simile/api"
	"simile/prime"
)

const greatest = 4294967291

// sieve tells which numbers below n are primes.
func sieve(n int) []bool {
	out := make([]bool, n)
	for i := 2; i < n; i++ {
		out[i] = true
	}
	for i := 2; i*i < n; i++ {
		for k := i * i; out[i] && k < n; k += i {
			out[k] = false
		}
	}
	return out
}

func TestIs(t *testing.T) { // P4.1
	for n, is := range sieve(200000) {
		if prime.Is(uint32(n)) != is {
			t.Errorf("Is(%d): %t", n, !is)
		}
	}
	// 2047 to 3215031751 pass for primes with some of the bases 2, 3, 5, 7; 4292870399 is 65519 times 65521
	for _, n := range []uint32{2047, 3277, 4033, 1373653, 25326001, 3215031751, 561, 41041, 4292870399, 4294967295, 4294967294, 4294967293, 314821, 3825123, 2152302898} {
		if prime.Is(n) {
			t.Errorf("Is(%d)", n)
		}
	}
	r := rand.New(rand.NewSource(1))
	for range 20000 {
		n := r.Uint32() | 1
		if prime.Is(n) != big.NewInt(int64(n)).ProbablyPrime(0) {
			t.Errorf("Is(%d): %t", n, prime.Is(n))
		}
	}
	for n := uint32(math.MaxUint32 - 3000); n != 0; n++ {
		if prime.Is(n) != big.NewInt(int64(n)).ProbablyPrime(0) {
			t.Errorf("Is(%d): %t", n, prime.Is(n))
		}
	}
}

func TestNeighbours(t *testing.T) { // P4.1
	for _, c := range []struct {
		n, next, last uint32
	}{
		{0, 2, 0}, {1, 2, 0}, {2, 3, 0}, {3, 5, 2}, {4, 5, 3}, {13, 17, 11}, {14, 17, 13}, {31397, 31469, 31393}, {4294967279, greatest, 4294967231},
		{4294967290, greatest, 4294967279}, {greatest, 0, 4294967279}, {math.MaxUint32, 0, greatest}, {4294967292, 0, greatest},
	} {
		if p, ok := prime.Next(c.n); p != c.next || ok != (c.next > 0) {
			t.Errorf("Next(%d): %d, %t", c.n, p, ok)
		}
		if p, ok := prime.Last(c.n); p != c.last || ok != (c.last > 0) {
			t.Errorf("Last(%d): %d, %t", c.n, p, ok)
		}
	}
}

func TestList(t *testing.T) { // P4.2
	for _, c := range []struct {
		from uint32
		k    int
		down bool
		want []uint32
	}{
		{10, 3, false, []uint32{11, 13, 17}}, {10, 5, true, []uint32{7, 5, 3, 2}}, {11, 2, false, []uint32{11, 13}}, {11, 2, true, []uint32{11, 7}}, {0, 2, false, []uint32{2, 3}},
		{0, 2, true, nil}, {1, 1, true, nil}, {5, 0, false, nil}, {5, 0, true, nil}, {math.MaxUint32, 2, true, []uint32{greatest, 4294967279}}, {4294967279, 3, false, []uint32{4294967279, greatest}}, {math.MaxUint32, 5, false, nil},
	} {
		if got, e := prime.List(c.from, c.k, c.down); e != api.OK || !slices.Equal(got, c.want) {
			t.Errorf("List(%d, %d, %t): %v, %d", c.from, c.k, c.down, got, e)
		}
	}
	for _, k := range []int{-1, 10001, math.MinInt, math.MaxInt} {
		if got, e := prime.List(2, k, false); len(got) > 0 || e != api.ErrArg {
			t.Errorf("List of %d: %d", k, e)
		}
	}
	if got, e := prime.List(0, 10000, false); e != api.OK || len(got) != 10000 || got[9999] != 104729 {
		t.Errorf("List of 10000: %d, %d", len(got), e)
	}
	if got, e := prime.List(104729, 10000, true); e != api.OK || len(got) != 10000 || got[9999] != 2 {
		t.Errorf("List of 10000 down: %d, %d", len(got), e)
	}
}

func TestBetween(t *testing.T) { // P4.2, R3
	for _, c := range []struct {
		lo, hi uint32
		want   []uint32
	}{
		{0, 10, []uint32{2, 3, 5, 7}}, {3, 11, []uint32{3, 5, 7, 11}}, {8, 10, nil}, {11, 3, nil}, {7, 7, []uint32{7}}, {4294967200, math.MaxUint32, []uint32{4294967231, 4294967279, greatest}}, {math.MaxUint32, math.MaxUint32, nil},
	} {
		var got []uint32
		for p := range prime.Between(c.lo, c.hi) {
			got = append(got, p)
		}
		if !slices.Equal(got, c.want) {
			t.Errorf("Between(%d, %d): %v", c.lo, c.hi, got)
		}
	}
	seq, pairs := prime.Between(2, 10), 0
	for p := range seq {
		for q := range seq {
			if pairs++; q == p {
				break
			}
		}
	}
	if pairs != 10 {
		t.Errorf("Between nested: %d", pairs)
	}
}

func TestFactors(t *testing.T) { // P4.3, P4.12
	for n, want := range map[uint32][]api.Factor{
		0: nil, 1: nil, 2: {{P: 2, Times: 1}}, 360: {{P: 2, Times: 3}, {P: 3, Times: 2}, {P: 5, Times: 1}}, greatest: {{P: greatest, Times: 1}},
		4292870399: {{P: 65519, Times: 1}, {P: 65521, Times: 1}}, 4294836225: {{P: 3, Times: 2}, {P: 5, Times: 2}, {P: 17, Times: 2}, {P: 257, Times: 2}}, 65521 * 65521: {{P: 65521, Times: 2}}, 1 << 31: {{P: 2, Times: 31}}, 3486784401: {{P: 3, Times: 20}},
	} {
		if got := prime.Factors(n); !slices.Equal(got, want) {
			t.Errorf("Factors(%d): %v", n, got)
		}
	}
	r := rand.New(rand.NewSource(2))
	for k := range 3000 {
		n := uint32(k + 1)
		if k >= 2500 {
			n = r.Uint32() | 1
		}
		product, last := uint64(1), uint32(1)
		for _, f := range prime.Factors(n) {
			if !prime.Is(f.P) || f.P <= last || f.Times < 1 {
				t.Errorf("Factors(%d): %v", n, prime.Factors(n))
			}
			last = f.P
			for range f.Times {
				product *= uint64(f.P)
			}
		}
		if product != uint64(n) {
			t.Errorf("Factors(%d) make %d", n, product)
		}
	}
}

func TestDivisors(t *testing.T) { // P4.3, P4.12
	if len(prime.Divisors(0)) > 0 || prime.Totient(0) != 0 {
		t.Error("divisors, totient of 0")
	}
	for n := uint32(1); n < 1500; n++ {
		var want []uint32
		coprime := uint32(0)
		for d := uint32(1); d <= n; d++ {
			if n%d == 0 {
				want = append(want, d)
			}
			if gcd(n, d) == 1 {
				coprime++
			}
		}
		if got := prime.Divisors(n); !slices.Equal(got, want) {
			t.Errorf("Divisors(%d): %v", n, got)
		}
		if got := prime.Totient(n); got != coprime {
			t.Errorf("Totient(%d): %d", n, got)
		}
	}
	for _, n := range []uint32{math.MaxUint32, 4294967280, 3491888400, greatest, 1 << 31, 4292870399} {
		sum := uint64(0)
		divisors := prime.Divisors(n)
		for i, d := range divisors {
			if n%d != 0 || i > 0 && divisors[i-1] >= d {
				t.Errorf("Divisors(%d): %v", n, divisors)
			}
			sum += uint64(prime.Totient(d))
		}
		if sum != uint64(n) {
			t.Errorf("the totients of the divisors of %d make %d", n, sum)
		}
	}
	if got := len(prime.Divisors(3491888400)); got != 1920 {
		t.Errorf("3491888400 has %d divisors", got)
	}
}

func gcd(a, b uint32) uint32 {
	for b != 0 {
		a, b = b, a%b
	}
	return a
}

func TestNoPrime(t *testing.T) { // ErrPrime ahead of all else
	for _, p := range []uint32{0, 1, 4, 9, 561, 2047, math.MaxUint32, 65536, 3215031751} {
		half := api.Rat{Num: api.Int{Mag: api.Nat{1}}}
		for what, call := range map[string]func() (uint32, api.Errno){
			"Add": func() (uint32, api.Errno) { return prime.Add(1, 1, p) },
			"Sub": func() (uint32, api.Errno) { return prime.Sub(1, 1, p) },
			"Mul": func() (uint32, api.Errno) { return prime.Mul(1, 1, p) },
			"Neg": func() (uint32, api.Errno) { return prime.Neg(1, p) },
			"Pow": func() (uint32, api.Errno) { return prime.Pow(1, 1, p) },
			"Inv": func() (uint32, api.Errno) { return prime.Inv(0, p) },
			"Quo": func() (uint32, api.Errno) { return prime.Quo(1, 0, p) },
			"Of":  func() (uint32, api.Errno) { return prime.Of(half.Num, p) },
			"OfRat": func() (uint32, api.Errno) {
				return prime.OfRat(half, p)
			},
			"Legendre": func() (uint32, api.Errno) { l, e := prime.Legendre(1, p); return uint32(l), e },
			"Sqrt":     func() (uint32, api.Errno) { return prime.Sqrt(1, p) },
			"Order":    func() (uint32, api.Errno) { return prime.Order(0, p) },
			"Root":     func() (uint32, api.Errno) { return prime.Root(p) },
		} {
			if got, e := call(); got != 0 || e != api.ErrPrime {
				t.Errorf("%s modulo %d: %d, %d", what, p, got, e)
			}
		}
	}
}

var some = []uint32{2, 3, 5, 7, 11, 13, 17, 41, 97, 257, 65537, 1000003, 998244353, 2147483647, 4294967279, greatest}

func TestField(t *testing.T) { // P4.4, P4.5, P4.9
	r := rand.New(rand.NewSource(3))
	for _, p := range some {
		big64 := uint64(p)
		for range 200 {
			a, b := r.Uint32(), r.Uint32()
			if r.Intn(4) == 0 {
				a, b = math.MaxUint32, p*uint32(r.Intn(2))
			}
			check := func(what string, got uint32, e api.Errno, want uint64) {
				t.Helper()
				if e != api.OK || uint64(got) != want {
					t.Errorf("%s of %d, %d modulo %d: %d, %d, want %d", what, a, b, p, got, e, want)
				}
			}
			got, e := prime.Add(a, b, p)
			check("Add", got, e, (uint64(a)+uint64(b))%big64)
			got, e = prime.Sub(a, b, p)
			check("Sub", got, e, (uint64(a)+big64-uint64(b)%big64)%big64)
			got, e = prime.Mul(a, b, p)
			check("Mul", got, e, uint64(a)*uint64(b)%big64)
			got, e = prime.Neg(a, p)
			check("Neg", got, e, (big64-uint64(a)%big64)%big64)
			k := r.Uint64() >> r.Intn(64)
			got, e = prime.Pow(a, k, p)
			check("Pow", got, e, new(big.Int).Exp(big.NewInt(int64(a)), new(big.Int).SetUint64(k), big.NewInt(int64(p))).Uint64())
			inv, e := prime.Inv(b, p)
			quo, e2 := prime.Quo(a, b, p)
			if b%p == 0 {
				if inv != 0 || quo != 0 || e != api.ErrZero || e2 != api.ErrZero {
					t.Errorf("Inv, Quo of %d modulo %d: %d, %d", b, p, e, e2)
				}
				continue
			}
			check("Inv", inv, e, uint64(inv)%big64)
			check("b times Inv", uint32(uint64(inv)*uint64(b)%big64), e, 1)
			check("Quo", quo, e2, uint64(quo)%big64)
			check("Quo times b", uint32(uint64(quo)*uint64(b)%big64), e2, uint64(a)%big64)
			m, _ := prime.Mul(a, b, p)
			got, e = prime.Quo(m, b, p)
			check("Quo of Mul", got, e, uint64(a)%big64)
		}
	}
	for _, p := range some {
		if got, e := prime.Pow(p, 0, p); got != 1 || e != api.OK {
			t.Errorf("0^0 modulo %d: %d", p, got)
		}
		if got, _ := prime.Neg(0, p); got != 0 {
			t.Errorf("Neg(0) modulo %d: %d", p, got)
		}
	}
}

func TestOf(t *testing.T) { // P4.6
	num := func(neg bool, limbs ...uint32) api.Int { return api.Int{Neg: neg, Mag: limbs} }
	for _, c := range []struct {
		r    api.Rat
		p    uint32
		want uint32
		e    api.Errno
	}{
		{api.Rat{Num: num(false, 1), Den: num(false, 2)}, 7, 4, api.OK}, {api.Rat{Num: num(false, 1), Den: num(false, 14)}, 7, 0, api.ErrZero},
		{api.Rat{Num: num(false, 7), Den: num(false, 14)}, 7, 4, api.OK}, {api.Rat{Num: num(true, 49), Den: num(false, 98)}, 7, 3, api.OK},
		{api.Rat{Num: num(false, 7), Den: num(true, 49)}, 7, 0, api.ErrZero}, {api.Rat{Num: num(false, 3), Den: num(true, 1, 0)}, 7, 4, api.OK},
		{api.Rat{Num: num(true), Den: num(false, 7)}, 7, 0, api.OK}, {api.Rat{Num: num(false, 5), Den: num(true, 0, 0)}, 7, 0, api.ErrDen},
		{api.Rat{Num: num(false, 0, 3), Den: num(false, 0, 1)}, 2, 1, api.OK}, {api.Rat{}, 5, 0, api.ErrDen},
	} {
		if got, e := prime.OfRat(c.r, c.p); got != c.want || e != c.e {
			t.Errorf("OfRat(%v, %d): %d, %d", c.r, c.p, got, e)
		}
	}
	for _, c := range []struct {
		x       api.Int
		p, want uint32
	}{{num(true, 1), 7, 6}, {num(true, 7), 7, 0}, {num(true, 0), 7, 0}, {num(false, 0, 0, 1, 0), greatest, 25}, {num(true, 0, 0, 1), greatest, greatest - 25}, {num(false, 9), 2, 1}} {
		if got, e := prime.Of(c.x, c.p); got != c.want || e != api.OK {
			t.Errorf("Of(%v, %d): %d, %d", c.x, c.p, got, e)
		}
	}
}

func TestSquares(t *testing.T) { // P4.7, P4.10
	for _, p := range []uint32{2, 3, 5, 7, 11, 13, 17, 41, 97, 193, 257} {
		least := map[uint32]uint32{}
		for x := p; x > 0; x-- {
			if s := (x - 1) * (x - 1) % p; true {
				least[s] = x - 1
			}
		}
		for a := range 2 * p {
			root, is := least[a%p]
			got, e := prime.Sqrt(a, p)
			l, e2 := prime.Legendre(a, p)
			want := api.OK
			if !is {
				want = api.ErrPrimeNone
			}
			if got != root || e != want {
				t.Errorf("Sqrt(%d, %d): %d, %d", a, p, got, e)
			}
			if mark := map[bool]int{true: 1, false: -1}[is]; e2 != api.OK || a%p != 0 && l != mark || a%p == 0 && l != 0 {
				t.Errorf("Legendre(%d, %d): %d", a, p, l)
			}
		}
	}
	r := rand.New(rand.NewSource(4))
	for _, p := range some[9:] { // 65537, 998244353: many twos in p - 1
		for range 200 {
			a := r.Uint32()
			l, _ := prime.Legendre(a, p)
			fermat, _ := prime.Pow(a, uint64(p-1)/2, p)
			if (uint64(l)+uint64(p))%uint64(p) != uint64(fermat) && !(l == -1 && fermat == p-1) {
				t.Errorf("Legendre(%d, %d): %d, the power %d", a, p, l, fermat)
			}
			root, e := prime.Sqrt(a, p)
			if l < 0 != (e == api.ErrPrimeNone) || e == api.OK && (uint64(root)*uint64(root)%uint64(p) != uint64(a%p) || root > p/2) {
				t.Errorf("Sqrt(%d, %d): %d, %d", a, p, root, e)
			}
			if same, _ := prime.Pow(a, uint64(p), p); same != a%p {
				t.Errorf("%d^%d modulo it: %d", a, p, same)
			}
		}
	}
}

func TestOrders(t *testing.T) { // P4.8, P4.11
	for _, p := range []uint32{2, 3, 5, 7, 11, 13, 31, 41, 97, 257} {
		first := uint32(0)
		for a := uint32(0); a < 2*p; a++ {
			got, e := prime.Order(a, p)
			if a%p == 0 {
				if got != 0 || e != api.ErrZero {
					t.Errorf("Order(%d, %d): %d, %d", a, p, got, e)
				}
				continue
			}
			want, x := uint32(1), a%p
			for ; x != 1; want++ {
				x = x * a % p
			}
			if got != want || e != api.OK || (p-1)%got != 0 {
				t.Errorf("Order(%d, %d): %d, want %d", a, p, got, want)
			}
			if want == p-1 && first == 0 {
				first = a
			}
		}
		if got, e := prime.Root(p); got != first || e != api.OK {
			t.Errorf("Root(%d): %d, want %d", p, got, first)
		}
	}
	for p, want := range map[uint32]uint32{65537: 3, 998244353: 3, 2147483647: 7, 1000003: 2, greatest: 2, 2: 1, 3: 2, 7: 3} {
		got, e := prime.Root(p)
		if order, _ := prime.Order(got, p); got != want || e != api.OK || order != p-1 {
			t.Errorf("Root(%d): %d, %d", p, got, e)
		}
	}
}

func TestMemory(t *testing.T) { // R3
	x := api.Int{Mag: append(make(api.Nat, 0, 4), 14, 0)}
	r := api.Rat{Num: x, Den: x}
	for range 2 {
		prime.Of(x, 7)
		if got, e := prime.OfRat(r, 7); got != 1 || e != api.OK {
			t.Errorf("OfRat(14/14, 7): %d, %d", got, e)
		}
	}
	if !slices.Equal(x.Mag[:4], api.Nat{14, 0, 0, 0}) {
		t.Errorf("what was handed in is %v", x.Mag[:4])
	}
	a := prime.Divisors(12)
	a = append(a[:0], 9, 9, 9)
	if !slices.Equal(prime.Divisors(12), []uint32{1, 2, 3, 4, 6, 12}) {
		t.Error("Divisors shares memory")
	}
}
