package rat_test

import (
	"fmt"
	"math"
	"math/big"
	"math/rand"
	"slices"
	"testing"

	"simile/api"
	"simile/rat"
	"simile/zint"
)

// nothing are fractions with a denominator 0.
var nothing = []api.Rat{{}, of(3, 0), {Num: zint.Of(1), Den: api.Int{Neg: true, Mag: api.Nat{0, 0}}}}

func TestReckoning(t *testing.T) { // P5.1
	r := rand.New(rand.NewSource(1))
	for range 3000 {
		a, b := some(r), some(r)
		x, y := broken(a), broken(b)
		got, e := rat.Norm(a)
		want(t, "Norm", got, e, x)
		got, e = rat.Make(a.Num, a.Den)
		want(t, "Make", got, e, x)
		got, e = rat.Neg(a)
		want(t, "Neg", got, e, new(big.Rat).Neg(x))
		got, e = rat.Add(a, b)
		want(t, "Add", got, e, new(big.Rat).Add(x, y))
		got, e = rat.Sub(a, b)
		want(t, "Sub", got, e, new(big.Rat).Sub(x, y))
		got, e = rat.Mul(a, b)
		want(t, "Mul", got, e, new(big.Rat).Mul(x, y))
		if s, e := rat.Sign(a); s != x.Sign() || e != api.OK {
			t.Errorf("Sign(%v): %d, %d", x, s, e)
		}
		if c, e := rat.Cmp(a, b); c != x.Cmp(y) || e != api.OK {
			t.Errorf("Cmp(%v, %v): %d, %d", x, y, c, e)
		}
		floor, e := rat.Floor(a)
		wantInt(t, "Floor", floor, e, new(big.Int).Div(x.Num(), x.Denom()))
		quo, e := rat.Quo(a, b)
		inv, e2 := rat.Inv(b)
		if y.Sign() == 0 {
			fault(t, "Quo", quo, e, api.ErrZero)
			fault(t, "Inv", inv, e2, api.ErrZero)
			continue
		}
		want(t, "Quo", quo, e, new(big.Rat).Quo(x, y))
		want(t, "Inv", inv, e2, new(big.Rat).Inv(y))
	}
}

func TestPlainCases(t *testing.T) { // P5.1
	for n, w := range map[int64]*big.Rat{0: big.NewRat(0, 1), -5: big.NewRat(-5, 1), math.MinInt64: big.NewRat(math.MinInt64, 1), math.MaxInt64: big.NewRat(math.MaxInt64, 1)} {
		want(t, "Of", rat.Of(n), api.OK, w)
	}
	got, e := rat.Make(zint.Of(6), zint.Of(-4))
	want(t, "Make(6, -4)", got, e, big.NewRat(-3, 2))
	got, e = rat.Make(api.Int{Neg: true, Mag: api.Nat{0}}, zint.Of(-4))
	want(t, "Make(-0, -4)", got, e, new(big.Rat))
	floor, e := rat.Floor(of(3, -2))
	wantInt(t, "Floor(-3/2)", floor, e, big.NewInt(-2))
	if c, _ := rat.Cmp(of(1, -2), of(-2, 4)); c != 0 {
		t.Errorf("Cmp(1/-2, -2/4): %d", c)
	}
}

func TestDenominators(t *testing.T) { // ErrDen of any argument, ahead of all else
	for _, bad := range nothing {
		zero := of(0, 5)
		for what, call := range map[string]func() (api.Rat, api.Errno){
			"Make":   func() (api.Rat, api.Errno) { return rat.Make(bad.Num, bad.Den) },
			"Norm":   func() (api.Rat, api.Errno) { return rat.Norm(bad) },
			"Neg":    func() (api.Rat, api.Errno) { return rat.Neg(bad) },
			"Inv":    func() (api.Rat, api.Errno) { return rat.Inv(bad) },
			"Add":    func() (api.Rat, api.Errno) { return rat.Add(zero, bad) },
			"Add 1":  func() (api.Rat, api.Errno) { return rat.Add(bad, zero) },
			"Sub":    func() (api.Rat, api.Errno) { return rat.Sub(zero, bad) },
			"Sub 1":  func() (api.Rat, api.Errno) { return rat.Sub(bad, zero) },
			"Mul":    func() (api.Rat, api.Errno) { return rat.Mul(zero, bad) },
			"Mul 1":  func() (api.Rat, api.Errno) { return rat.Mul(bad, zero) },
			"Quo":    func() (api.Rat, api.Errno) { return rat.Quo(zero, bad) },
			"Quo 1":  func() (api.Rat, api.Errno) { return rat.Quo(bad, zero) },
			"Pow":    func() (api.Rat, api.Errno) { return rat.Pow(bad, 0) },
			"Pow 1":  func() (api.Rat, api.Errno) { return rat.Pow(bad, math.MinInt) },
			"Floor":  func() (api.Rat, api.Errno) { x, e := rat.Floor(bad); return api.Rat{Num: x}, e },
			"Sign":   func() (api.Rat, api.Errno) { x, e := rat.Sign(bad); return api.Rat{Num: zint.Of(int64(x))}, e },
			"Cmp":    func() (api.Rat, api.Errno) { x, e := rat.Cmp(zero, bad); return api.Rat{Num: zint.Of(int64(x))}, e },
			"Cmp 1":  func() (api.Rat, api.Errno) { x, e := rat.Cmp(bad, zero); return api.Rat{Num: zint.Of(int64(x))}, e },
			"Height": func() (api.Rat, api.Errno) { x, e := rat.Height(zero, bad); return api.Rat{Num: zint.Of(int64(x))}, e },
			"Common": func() (api.Rat, api.Errno) {
				x, l, e := rat.Common(zero, bad)
				return api.Rat{Num: x, Den: zint.Of(int64(len(l)))}, e
			},
		} {
			got, e := call()
			fault(t, what, got, e, api.ErrDen)
		}
		for x := range rat.Parts(bad) {
			t.Errorf("Parts(%v) tells %v", bad, x)
		}
	}
}

func TestPow(t *testing.T) { // P5.1
	r := rand.New(rand.NewSource(2))
	for range 500 {
		a, k := some(r), r.Intn(13)-6
		got, e := rat.Pow(a, k)
		x, w := broken(a), big.NewRat(1, 1)
		if x.Sign() == 0 && k < 0 {
			fault(t, "Pow", got, e, api.ErrZero)
			continue
		}
		for range max(k, -k) {
			w.Mul(w, x)
		}
		if k < 0 {
			w.Inv(w)
		}
		want(t, "Pow", got, e, w)
	}
	for _, c := range []struct {
		a api.Rat
		k int
		e api.Errno
		w int64
	}{
		{of(0, -3), 0, api.OK, 1}, {of(0, 3), math.MaxInt, api.OK, 0}, {of(-3, 3), math.MinInt, api.OK, 1}, {of(-1, 1), math.MinInt + 1, api.OK, -1}, {of(2, 2), math.MinInt, api.OK, 1},
		{of(0, 1), math.MinInt, api.ErrZero, 0}, {of(2, 1), math.MinInt, api.ErrTooBig, 0}, {of(1, 2), math.MinInt, api.ErrTooBig, 0}, {of(1, 2), api.MaxNatBits, api.ErrTooBig, 0},
		{of(2, 1), api.MaxNatBits, api.ErrTooBig, 0}, {of(2, 1), -api.MaxNatBits, api.ErrTooBig, 0}, {of(4, 2), -api.MaxNatBits, api.ErrTooBig, 0}, {of(0, 1), -1, api.ErrZero, 0},
	} {
		got, e := rat.Pow(c.a, c.k)
		if c.e == api.OK {
			want(t, fmt.Sprint("Pow ", c.a, c.k), got, e, big.NewRat(c.w, 1))
		} else {
			fault(t, fmt.Sprint("Pow ", c.a, c.k), got, e, c.e)
		}
	}
	got, e := rat.Pow(of(4, 2), 1-api.MaxNatBits)
	if e != api.OK || len(got.Den.Mag) != api.MaxNatBits/32 || len(got.Num.Mag) != 1 {
		t.Errorf("(4/2)^(1 - 2^26): %d", e)
	}
	got, e = rat.Pow(of(2, 1), -2)
	want(t, "Pow(2, -2)", got, e, big.NewRat(1, 4))
}

func TestCommon(t *testing.T) { // P5.2, P5.6
	r := rand.New(rand.NewSource(3))
	for n := range 200 {
		l := make([]api.Rat, n%7)
		lcm := big.NewInt(1)
		for i := range l {
			l[i] = some(r)
			d := broken(l[i]).Denom()
			g := new(big.Int).GCD(nil, nil, lcm, d)
			lcm.Mul(lcm, new(big.Int).Div(d, g))
		}
		den, nums, e := rat.Common(l...)
		wantInt(t, "Common", den, e, lcm)
		if len(nums) != len(l) {
			t.Fatalf("Common of %d: %d", len(l), len(nums))
		}
		for i, x := range nums {
			w := new(big.Rat).Mul(broken(l[i]), new(big.Rat).SetInt(lcm))
			wantInt(t, "Common's numerator", x, e, w.Num())
		}
	}
	den, nums, e := rat.Common(of(1, 2), of(2, -6))
	if large(den).Int64() != 6 || large(nums[0]).Int64() != 3 || large(nums[1]).Int64() != -2 || e != api.OK {
		t.Errorf("Common(1/2, -1/3): %v, %v", den, nums)
	}
}

func TestHeight(t *testing.T) { // P5.2
	for _, c := range []struct {
		l []api.Rat
		w int
	}{{nil, 0}, {[]api.Rat{of(0, 9)}, 1}, {[]api.Rat{of(3, 8)}, 4}, {[]api.Rat{of(6, -16)}, 4}, {[]api.Rat{of(1, 3), of(-8, 1)}, 4}, {[]api.Rat{of(1000, 1000)}, 1}, {[]api.Rat{of(-8, 1), of(1, 33)}, 6}} {
		if got, e := rat.Height(c.l...); got != c.w || e != api.OK {
			t.Errorf("Height(%v): %d, %d", c.l, got, e)
		}
	}
}

func TestParts(t *testing.T) { // P5.3, P5.5
	for _, c := range []struct {
		a    api.Rat
		want []int64
	}{{of(-3, 2), []int64{-2, 2}}, {of(7, 3), []int64{2, 3}}, {of(0, -5), []int64{0}}, {of(4, 2), []int64{2}}, {of(-1, 1), []int64{-1}}, {of(5, -3), []int64{-2, 3}}, {of(1, 2), []int64{0, 2}}, {of(-355, -113), []int64{3, 7, 16}}} {
		var got []int64
		for x := range rat.Parts(c.a) {
			n, _ := zint.Int64(x)
			got = append(got, n)
		}
		if !slices.Equal(got, c.want) {
			t.Errorf("Parts(%v): %v", c.a, got)
		}
	}
	r := rand.New(rand.NewSource(4))
	for range 500 {
		a := some(r)
		var parts []api.Int
		for x := range rat.Parts(a) {
			parts = append(parts, x)
		}
		for i, x := range parts {
			if i > 0 && zint.Cmp(x, zint.Of(1)) < 0 || i > 0 && i == len(parts)-1 && zint.Cmp(x, zint.Of(2)) < 0 || !normal(x) {
				t.Errorf("Parts(%v): %v", a, parts)
			}
		}
		back, e := rat.FromParts(parts...)
		want(t, "FromParts of Parts", back, e, broken(a))
	}
}

func TestPartsKeeps(t *testing.T) { // R3
	a := of(415, 93) // 4, 2, 6, 7
	seq := rat.Parts(a)
	a.Num.Mag[0], a.Den.Mag[0] = 1, 1
	text := ""
	for x := range seq {
		text += fmt.Sprint(x.Mag)
		x.Mag[0] = 99
		for y := range seq {
			text += fmt.Sprint(y.Mag)
			break
		}
	}
	if text != "[4][4][2][4][6][4][7][4]" {
		t.Errorf("Parts(415/93): %s", text)
	}
}

func TestFromParts(t *testing.T) { // P5.3
	for _, c := range []struct {
		l []int64
		e api.Errno
		w *big.Rat
	}{
		{nil, api.OK, big.NewRat(0, 1)}, {[]int64{0}, api.OK, big.NewRat(0, 1)}, {[]int64{1, 0}, api.ErrZero, nil}, {[]int64{0, 0, 1}, api.OK, big.NewRat(1, 1)}, {[]int64{5, 1, -1}, api.ErrZero, nil},
		{[]int64{-2, 2}, api.OK, big.NewRat(-3, 2)}, {[]int64{1, -2}, api.OK, big.NewRat(1, 2)}, {[]int64{3, 7, 16}, api.OK, big.NewRat(355, 113)}, {[]int64{1, -1}, api.OK, big.NewRat(0, 1)}, {[]int64{2, 1}, api.OK, big.NewRat(3, 1)}, {[]int64{1, 1, 0}, api.ErrZero, nil}, {[]int64{3, 0, 5}, api.OK, big.NewRat(8, 1)},
	} {
		l := make([]api.Int, len(c.l))
		for i, n := range c.l {
			l[i] = zint.Of(n)
			l[i].Mag = append(l[i].Mag, 0)
		}
		got, e := rat.FromParts(l...)
		if c.e == api.OK {
			want(t, fmt.Sprint("FromParts", c.l), got, e, c.w)
		} else {
			fault(t, fmt.Sprint("FromParts", c.l), got, e, c.e)
		}
	}
}

func TestLaws(t *testing.T) { // P5.4
	r := rand.New(rand.NewSource(5))
	add := func(a, b api.Rat) api.Rat { x, _ := rat.Add(a, b); return x }
	mul := func(a, b api.Rat) api.Rat { x, _ := rat.Mul(a, b); return x }
	for range 300 {
		a, b, c := some(r), some(r), some(r)
		for what, pair := range map[string][2]api.Rat{
			"a + b":       {add(a, b), add(b, a)},
			"a b":         {mul(a, b), mul(b, a)},
			"(a + b) + c": {add(add(a, b), c), add(a, add(b, c))},
			"(a b) c":     {mul(mul(a, b), c), mul(a, mul(b, c))},
			"(a + b) c":   {mul(add(a, b), c), add(mul(a, c), mul(b, c))},
		} {
			want(t, what, pair[0], api.OK, broken(pair[1]))
		}
		if zint.Sign(b.Num) != 0 {
			got, e := rat.Quo(mul(a, b), b)
			want(t, "a b / b", got, e, broken(a))
			inv, _ := rat.Inv(b)
			got, e = rat.Inv(inv)
			want(t, "1 / (1 / b)", got, e, broken(b))
		}
	}
}

func TestMemory(t *testing.T) { // R3: what is handed in stays, what is answered is new
	type call = func(a, b api.Rat) []api.Int
	one := func(f func(a, b api.Rat) (api.Rat, api.Errno)) call {
		return func(a, b api.Rat) []api.Int { x, _ := f(a, b); return []api.Int{x.Num, x.Den} }
	}
	calls := map[string]call{
		"Make": one(func(a, b api.Rat) (api.Rat, api.Errno) { return rat.Make(a.Num, a.Den) }),
		"Norm": one(func(a, b api.Rat) (api.Rat, api.Errno) { return rat.Norm(a) }),
		"Neg":  one(func(a, b api.Rat) (api.Rat, api.Errno) { return rat.Neg(a) }),
		"Inv":  one(func(a, b api.Rat) (api.Rat, api.Errno) { return rat.Inv(a) }),
		"Add":  one(rat.Add), "Sub": one(rat.Sub), "Mul": one(rat.Mul), "Quo": one(rat.Quo),
		"Pow":       one(func(a, b api.Rat) (api.Rat, api.Errno) { return rat.Pow(a, 1) }),
		"FromParts": one(func(a, b api.Rat) (api.Rat, api.Errno) { return rat.FromParts(a.Num) }),
		"Floor":     func(a, b api.Rat) []api.Int { x, _ := rat.Floor(a); return []api.Int{x} },
		"Common":    func(a, b api.Rat) []api.Int { x, l, _ := rat.Common(a, b, a); return append(l, x) },
	}
	r := rand.New(rand.NewSource(6))
	for what, call := range calls {
		for k := range 60 {
			a, b := some(r), some(r)
			if k%4 == 0 {
				a, b = of(7, 1), of(1, 1)
			}
			var rooms, kept [4]api.Nat
			for i, x := range []*api.Int{&a.Num, &a.Den, &b.Num, &b.Den} {
				rooms[i] = append(slices.Clone(x.Mag), 11, 12, 13)
				kept[i] = slices.Clone(rooms[i])
				x.Mag = rooms[i][:len(x.Mag)]
			}
			text := fmt.Sprint(call(a, b))
			out := call(a, b)
			for i := range out {
				room := out[i].Mag[:cap(out[i].Mag)]
				for j := range room {
					room[j] = uint32(i) + 777
				}
			}
			for i := range out {
				if slices.ContainsFunc(out[i].Mag, func(x uint32) bool { return x != uint32(i)+777 }) {
					t.Errorf("%s: two lists of the answer share memory", what)
				}
			}
			for i := range rooms {
				if !slices.Equal(rooms[i], kept[i]) {
					t.Errorf("%s changes what is handed in", what)
				}
			}
			if fmt.Sprint(call(a, b)) != text {
				t.Errorf("%s answers something else", what)
			}
		}
	}
}
