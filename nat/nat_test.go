package nat_test

import (
	"math"
	"math/big"
	"math/rand"
	"slices"
	"testing"

	"simile/api"
	"simile/nat"
)

func TestForms(t *testing.T) { // P1.1
	for _, c := range []struct {
		in, out api.Nat
		length  int
		trail   int
	}{
		{nil, nil, 0, 0}, {api.Nat{}, nil, 0, 0}, {api.Nat{0, 0}, nil, 0, 0},
		{api.Nat{1, 0}, api.Nat{1}, 1, 0}, {api.Nat{0, 1}, api.Nat{0, 1}, 33, 32},
		{api.Nat{0, 12, 0, 0}, api.Nat{0, 12}, 36, 34}, {api.Nat{0xffffffff}, api.Nat{0xffffffff}, 32, 0},
		{api.Nat{0x80000000}, api.Nat{0x80000000}, 32, 31},
	} {
		if got := nat.Norm(c.in); !slices.Equal(got, c.out) {
			t.Errorf("Norm(%v): %v", c.in, got)
		}
		if got := nat.Len(c.in); got != c.length {
			t.Errorf("Len(%v): %d", c.in, got)
		}
		if got := nat.Trail(c.in); got != c.trail {
			t.Errorf("Trail(%v): %d", c.in, got)
		}
	}
	for _, n := range []uint64{0, 1, 1<<32 - 1, 1 << 32, 1<<63 + 5, math.MaxUint64} {
		want(t, "Of", nat.Of(n), new(big.Int).SetUint64(n))
		if got, ok := nat.Uint64(append(nat.Of(n), 0)); got != n || !ok {
			t.Errorf("Uint64 of %d: %d, %t", n, got, ok)
		}
	}
	if got, ok := nat.Uint64(api.Nat{5, 0, 1}); got != 0 || ok {
		t.Errorf("Uint64 of 2^64 + 5: %d, %t", got, ok)
	}
	if got, ok := nat.Uint64(api.Nat{5, 0, 0}); got != 5 || !ok {
		t.Errorf("Uint64 of 5 in three limbs: %d, %t", got, ok)
	}
}

func TestBits(t *testing.T) { // P1.1, P1.6
	r := rand.New(rand.NewSource(1))
	for range 300 {
		a := some(r, 5)
		var places []int
		for i := range nat.Bits(a) {
			places = append(places, i)
		}
		var must []int
		for i := range 32 * len(a) {
			bit := large(a).Bit(i)
			if nat.Bit(a, i) != bit {
				t.Errorf("Bit(%v, %d): %d", a, i, nat.Bit(a, i))
			}
			if bit == 1 {
				must = append(must, i)
			}
		}
		if !slices.Equal(places, must) {
			t.Errorf("Bits(%v): %v", a, places)
		}
		if len(must) > 0 && (nat.Len(a) != must[len(must)-1]+1 || nat.Trail(a) != must[0]) {
			t.Errorf("Len, Trail of %v: %d, %d", a, nat.Len(a), nat.Trail(a))
		}
	}
	for _, i := range []int{-1, math.MinInt, 64, math.MaxInt} {
		if nat.Bit(api.Nat{math.MaxUint32, math.MaxUint32}, i) != 0 {
			t.Errorf("Bit %d of 2^64 - 1", i)
		}
	}
}

func TestBitsKeepsAndEnds(t *testing.T) { // R3: as it was when it was asked for; left, gone over again, nested
	a := api.Nat{5, 1}
	seq := nat.Bits(a)
	a[0], a[1] = 8, 8
	pairs := 0
	for i := range seq {
		for k := range seq {
			pairs++
			if k >= i {
				break
			}
		}
	}
	var got []int
	for i := range seq {
		got = append(got, i)
	}
	if !slices.Equal(got, []int{0, 2, 32}) || pairs != 6 {
		t.Errorf("Bits of 2^32 + 5: %v, %d pairs", got, pairs)
	}
}

func TestSmallReckoning(t *testing.T) { // P1.2
	r := rand.New(rand.NewSource(2))
	for range 3000 {
		reckon(t, some(r, 6), some(r, 4))
	}
}

func TestLongReckoning(t *testing.T) { // P1.2: of lengths at which other ways set in
	r := rand.New(rand.NewSource(3))
	for _, size := range [][2]int{{70, 70}, {90, 79}, {81, 160}, {200, 90}, {400, 190}, {500, 500}, {900, 210}, {1000, 401}, {3000, 600}, {12000, 5300}, {10500, 10400}} {
		for range 6 {
			a, b := some(r, size[0]), some(r, size[1])
			reckon(t, a, b)
			reckon(t, append(make(api.Nat, size[1]), a...), append(b, 7))
		}
	}
}

// reckon holds all of two numbers' calls against math/big.
func reckon(t *testing.T, a, b api.Nat) {
	t.Helper()
	x, y := large(a), large(b)
	if got := nat.Cmp(a, b); got != x.Cmp(y) {
		t.Errorf("Cmp(%v, %v): %d", a, b, got)
	}
	want(t, "Add", nat.Add(a, b), new(big.Int).Add(x, y))
	want(t, "Mul", nat.Mul(a, b), new(big.Int).Mul(x, y))
	want(t, "Gcd", nat.Gcd(a, b), new(big.Int).GCD(nil, nil, x, y))
	want(t, "Sqrt", nat.Sqrt(a), new(big.Int).Sqrt(x))
	if d, e := nat.Sub(a, b); x.Cmp(y) < 0 {
		fault(t, "Sub", e, api.ErrNatLess, d)
	} else if fault(t, "Sub", e, api.OK); true {
		want(t, "Sub", d, new(big.Int).Sub(x, y))
	}
	q, m, e := nat.Div(a, b)
	if y.Sign() == 0 {
		fault(t, "Div", e, api.ErrZero, q, m)
		return
	}
	fault(t, "Div", e, api.OK)
	wq, wm := new(big.Int).QuoRem(x, y, new(big.Int))
	want(t, "Div", q, wq)
	want(t, "Div's rest", m, wm)
}

func TestHardDivisions(t *testing.T) { // P1.2, P1.4: quotients whose digits are guessed too great
	ones := func(n uint) *big.Int { return new(big.Int).Sub(power2(n), big.NewInt(1)) }
	for _, n := range []uint{64, 96, 128, 192, 6400, 6464, 12800, 25600} {
		for _, m := range []uint{64, 128, 6400, 12864} {
			for _, d := range []int64{-1, 0, 1} {
				b := new(big.Int).Add(power2(n), big.NewInt(d))
				a := new(big.Int).Mul(b, ones(m))
				for _, c := range []int64{-1, 0, 1} {
					reckon(t, number(new(big.Int).Add(a, big.NewInt(c))), number(b))
				}
				reckon(t, number(new(big.Int).Sub(new(big.Int).Lsh(b, m), big.NewInt(1))), number(b))
			}
			low := new(big.Int).Add(power2(n+63), ones(n/2))
			reckon(t, number(new(big.Int).Sub(new(big.Int).Lsh(low, m), big.NewInt(1))), number(low))
		}
	}
	q, m, e := nat.Div(api.Nat{0, 0, 1}, api.Nat{10, 0})
	if a, _ := nat.Uint64(q); a != 1844674407370955161 || e != api.OK {
		t.Errorf("2^64 / 10: %v", q)
	}
	want(t, "2^64 by 10", m, big.NewInt(6))
}

func TestGcdOfFactors(t *testing.T) { // P1.5
	r := rand.New(rand.NewSource(4))
	for range 200 {
		a, b, k := some(r, 20), some(r, 20), some(r, 20)
		g := nat.Gcd(a, b)
		if nat.Cmp(nat.Gcd(nat.Mul(k, a), nat.Mul(k, b)), nat.Mul(k, g)) != 0 {
			t.Errorf("Gcd(k a, k b) of %v, %v, %v", k, a, b)
		}
		if len(g) == 0 {
			continue
		}
		x, rest, _ := nat.Div(a, g)
		y, rest2, _ := nat.Div(b, g)
		if len(rest)+len(rest2) > 0 || nat.Cmp(nat.Gcd(x, y), nat.Of(1)) != 0 {
			t.Errorf("Gcd(%v, %v): %v", a, b, g)
		}
	}
	want(t, "Gcd(0, b)", nat.Gcd(nil, api.Nat{6, 0}), big.NewInt(6))
	want(t, "Gcd(a, 0)", nat.Gcd(api.Nat{1, 2, 3}, api.Nat{0}), large(api.Nat{1, 2, 3}))
	want(t, "Gcd(0, 0)", nat.Gcd(nil, api.Nat{0}), new(big.Int))
	a, b := big.NewInt(1), big.NewInt(1) // neighbours in Fibonacci's sequence need the most steps
	for range 2000 {
		a, b = b, new(big.Int).Add(a, b)
	}
	want(t, "Gcd of Fibonacci's", nat.Gcd(number(a), number(b)), big.NewInt(1))
}

func TestLaws(t *testing.T) { // P1.4
	r := rand.New(rand.NewSource(5))
	for range 300 {
		a, b, c := some(r, 8), some(r, 8), some(r, 100)
		for what, pair := range map[string][2]api.Nat{
			"a + b":       {nat.Add(a, b), nat.Add(b, a)},
			"a b":         {nat.Mul(a, b), nat.Mul(b, a)},
			"(a + b) + c": {nat.Add(nat.Add(a, b), c), nat.Add(a, nat.Add(b, c))},
			"(a b) c":     {nat.Mul(nat.Mul(a, b), c), nat.Mul(a, nat.Mul(b, c))},
			"(a + b) c":   {nat.Mul(nat.Add(a, b), c), nat.Add(nat.Mul(a, c), nat.Mul(b, c))},
		} {
			if !slices.Equal(pair[0], pair[1]) {
				t.Errorf("%s: %v, %v", what, pair[0], pair[1])
			}
		}
		if d, e := nat.Sub(nat.Add(a, b), b); e != api.OK || nat.Cmp(d, a) != 0 {
			t.Errorf("a + b - b: %v", d)
		}
	}
}

func TestShifts(t *testing.T) { // P1.3, P1.6
	r := rand.New(rand.NewSource(6))
	for range 300 {
		a, n := some(r, 4), r.Intn(150)
		left, e := nat.Left(a, n)
		fault(t, "Left", e, api.OK)
		want(t, "Left", left, new(big.Int).Lsh(large(a), uint(n)))
		right, e := nat.Right(a, n)
		fault(t, "Right", e, api.OK)
		want(t, "Right", right, new(big.Int).Rsh(large(a), uint(n)))
		if back, _ := nat.Right(left, n); nat.Cmp(back, a) != 0 {
			t.Errorf("Right of Left(%v, %d): %v", a, n, back)
		}
	}
	for _, n := range []int{-1, math.MinInt} {
		got, e := nat.Left(nil, n)
		fault(t, "Left by less than 0", e, api.ErrArg, got)
		got, e = nat.Right(nil, n)
		fault(t, "Right by less than 0", e, api.ErrArg, got)
	}
	for _, n := range []int{40, 64, 1 << 40, math.MaxInt} {
		got, e := nat.Right(api.Nat{5, 0}, n)
		fault(t, "Right by much", e, api.OK, got)
		got, e = nat.Left(api.Nat{0, 0}, n)
		fault(t, "Left of 0", e, api.OK, got)
	}
}

func TestLeftLimit(t *testing.T) { // P1.3
	got, e := nat.Left(api.Nat{1, 0}, api.MaxNatBits-1)
	if fault(t, "Left to the limit", e, api.OK); nat.Len(got) != api.MaxNatBits || nat.Trail(got) != api.MaxNatBits-1 {
		t.Errorf("Left(1, 2^26 - 1) has %d bits", nat.Len(got))
	}
	for _, n := range []int{api.MaxNatBits, math.MaxInt} {
		got, e = nat.Left(api.Nat{1}, n)
		fault(t, "Left above the limit", e, api.ErrTooBig, got)
	}
	got, e = nat.Left(api.Nat{3}, api.MaxNatBits-1)
	fault(t, "Left of 3 above the limit", e, api.ErrTooBig, got)
	long := make(api.Nat, api.MaxNatBits/32+1)
	long[len(long)-1] = 1
	got, e = nat.Left(long, 0)
	fault(t, "Left by 0 of what is too long", e, api.ErrTooBig, got)
	got, e = nat.Left(long[:len(long)-1], 5)
	fault(t, "Left of 0 in many limbs", e, api.OK, got)
}

func TestPow(t *testing.T) { // P1.3
	r := rand.New(rand.NewSource(7))
	for range 200 {
		a, k := some(r, 3), r.Intn(40)
		got, e := nat.Pow(a, k)
		fault(t, "Pow", e, api.OK)
		want(t, "Pow", got, new(big.Int).Exp(large(a), big.NewInt(int64(k)), nil))
	}
	for _, c := range []struct {
		a    api.Nat
		k    int
		e    api.Errno
		want int64
	}{
		{nil, 0, api.OK, 1}, {api.Nat{0, 0}, 5, api.OK, 0}, {api.Nat{1}, math.MaxInt, api.OK, 1},
		{nil, math.MaxInt, api.OK, 0}, {api.Nat{7}, 0, api.OK, 1}, {api.Nat{2}, -1, api.ErrArg, 0},
		{nil, math.MinInt, api.ErrArg, 0}, {api.Nat{2}, math.MaxInt, api.ErrTooBig, 0},
		{api.Nat{2}, api.MaxNatBits, api.ErrTooBig, 0}, {api.Nat{3}, 1 << 26, api.ErrTooBig, 0},
		{api.Nat{6}, 1 << 25, api.ErrTooBig, 0}, {api.Nat{0, 1}, 1 << 21, api.ErrTooBig, 0},
	} {
		got, e := nat.Pow(c.a, c.k)
		fault(t, "Pow", e, c.e)
		want(t, "Pow", got, big.NewInt(c.want))
	}
}

func TestPowLimit(t *testing.T) { // P1.3
	got, e := nat.Pow(api.Nat{2}, api.MaxNatBits-1)
	if fault(t, "2^(2^26 - 1)", e, api.OK); nat.Len(got) != api.MaxNatBits {
		t.Errorf("2^(2^26 - 1) has %d bits", nat.Len(got))
	}
	long := make(api.Nat, api.MaxNatBits/32+1)
	long[0], long[len(long)-2] = 1, 1<<31
	if got, e = nat.Pow(long, 1); e != api.OK || nat.Cmp(got, long) != 0 {
		t.Errorf("Pow of 2^26 bits to the 1: error %d", e)
	}
	long[len(long)-1] = 1
	got, e = nat.Pow(long, 1)
	fault(t, "Pow of more bits to the 1", e, api.ErrTooBig, got)
	got, e = nat.Pow(long, 0)
	fault(t, "Pow of more bits to the 0", e, api.OK)
	want(t, "Pow of more bits to the 0", got, big.NewInt(1))
	// 3^k has its 2^20 bits at k = 661576; the check modulo a prime is one of all its limbs
	got, e = nat.Pow(api.Nat{3}, 661576)
	fault(t, "a long power of 3", e, api.OK)
	p := big.NewInt(1<<61 - 1)
	if new(big.Int).Mod(large(got), p).Cmp(new(big.Int).Exp(big.NewInt(3), big.NewInt(661576), p)) != 0 {
		t.Error("a long power of 3 is another number")
	}
}

func TestSqrt(t *testing.T) { // P1.3, P1.6
	want(t, "Sqrt(2^65)", nat.Sqrt(api.Nat{0, 0, 2, 0}), big.NewInt(6074000999))
	want(t, "Sqrt(0)", nat.Sqrt(api.Nat{0}), new(big.Int))
	r := rand.New(rand.NewSource(8))
	for range 400 {
		s := large(some(r, 12))
		square := new(big.Int).Mul(s, s)
		want(t, "Sqrt of a square", nat.Sqrt(number(square)), s)
		if s.Sign() > 0 {
			less := new(big.Int).Sub(square, big.NewInt(1))
			want(t, "Sqrt of one less", nat.Sqrt(number(less)), new(big.Int).Sub(s, big.NewInt(1)))
		}
		more := new(big.Int).Add(square, new(big.Int).Lsh(s, 1))
		want(t, "Sqrt of the last one", nat.Sqrt(number(more)), s)
	}
	for n := range 3000 {
		want(t, "Sqrt", nat.Sqrt(nat.Of(uint64(n))), new(big.Int).Sqrt(big.NewInt(int64(n))))
	}
	for _, n := range []uint64{math.MaxUint64, 1<<63 - 1, 1 << 62, 1<<62 - 1, 4294967295 * 4294967295, 4294967295*4294967295 - 1} {
		want(t, "Sqrt", nat.Sqrt(nat.Of(n)), new(big.Int).Sqrt(new(big.Int).SetUint64(n)))
	}
}

func TestMemory(t *testing.T) { // R3: what is handed in stays, what is answered is new
	calls := map[string]func(a, b api.Nat) []api.Nat{
		"Norm":  func(a, b api.Nat) []api.Nat { return []api.Nat{nat.Norm(a)} },
		"Add":   func(a, b api.Nat) []api.Nat { return []api.Nat{nat.Add(a, b)} },
		"Sub":   func(a, b api.Nat) []api.Nat { x, _ := nat.Sub(a, b); return []api.Nat{x} },
		"Mul":   func(a, b api.Nat) []api.Nat { return []api.Nat{nat.Mul(a, b)} },
		"Div":   func(a, b api.Nat) []api.Nat { x, y, _ := nat.Div(a, b); return []api.Nat{x, y} },
		"Gcd":   func(a, b api.Nat) []api.Nat { return []api.Nat{nat.Gcd(a, b)} },
		"Left":  func(a, b api.Nat) []api.Nat { x, _ := nat.Left(a, 0); return []api.Nat{x} },
		"Right": func(a, b api.Nat) []api.Nat { x, _ := nat.Right(a, 0); return []api.Nat{x} },
		"Pow":   func(a, b api.Nat) []api.Nat { x, _ := nat.Pow(a, 1); return []api.Nat{x} },
		"Sqrt":  func(a, b api.Nat) []api.Nat { return []api.Nat{nat.Sqrt(a)} },
	}
	pairs := [][2]api.Nat{{{9}, nil}, {{1, 2, 3, 4}, {1}}, {{7, 7}, {7, 7}}, {{3, 3, 3}, {0}}, {{5}, {1, 2, 3}}, {{1}, {1}}}
	for what, call := range calls {
		for _, p := range pairs {
			rooms := [2]api.Nat{append(slices.Clone(p[0]), 11, 12), append(slices.Clone(p[1]), 13, 14)}
			kept := [2]api.Nat{slices.Clone(rooms[0]), slices.Clone(rooms[1])}
			out := call(rooms[0][:len(p[0])], rooms[1][:len(p[1])])
			for _, x := range out {
				x = x[:cap(x)]
				for i := range x {
					x[i] = 0xdeadbeef
				}
			}
			again := call(rooms[0][:len(p[0])], rooms[1][:len(p[1])])
			if !slices.Equal(rooms[0], kept[0]) || !slices.Equal(rooms[1], kept[1]) {
				t.Errorf("%s changes what is handed in, or shares it", what)
			}
			fresh := call(slices.Clone(p[0]), slices.Clone(p[1]))
			for i := range again {
				if !slices.Equal(again[i], fresh[i]) {
					t.Errorf("%s answers %v, then %v", what, fresh[i], again[i])
				}
			}
		}
	}
}
