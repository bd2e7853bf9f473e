package crt_test

import (
	"fmt"
	"math"
	"math/big"
	"math/rand"
	"slices"
	"testing"

	"simile/api"
	"simile/crt"
	"simile/nat"
	"simile/prime"
	"simile/zint"
)

// large tells what a natural number is to math/big.
func large(a api.Nat) *big.Int {
	text := make([]byte, 0, 4*len(a))
	for i := len(a) - 1; i >= 0; i-- {
		text = append(text, byte(a[i]>>24), byte(a[i]>>16), byte(a[i]>>8), byte(a[i]))
	}
	return new(big.Int).SetBytes(text)
}

// number tells what a number of math/big is here.
func number(x *big.Int) api.Nat {
	text := x.Bytes()
	out := make(api.Nat, (len(text)+3)/4)
	for i := range text {
		out[i/4] |= uint32(text[len(text)-1-i]) << (8 * (i % 4))
	}
	return out
}

func signed(x api.Int) *big.Int {
	if x.Neg {
		return new(big.Int).Neg(large(x.Mag))
	}
	return large(x.Mag)
}

func normal(a api.Nat) bool { return len(a) == 0 || a[len(a)-1] != 0 }

// want holds an answer against what it must be, and asks for the normal form.
func want(t *testing.T, what string, got api.Nat, w *big.Int) {
	t.Helper()
	if large(got).Cmp(w) != 0 || !normal(got) {
		t.Errorf("%s: %v, want %v", what, got, w)
	}
}

func wantInt(t *testing.T, what string, got api.Int, w *big.Int) {
	t.Helper()
	if signed(got).Cmp(w) != 0 || !normal(got.Mag) || got.Neg && len(got.Mag) == 0 {
		t.Errorf("%s: %v, want %v", what, got, w)
	}
}

var primes = []uint32{2, 3, 5, 7, 4294967291, 4294967279, 65537, 1000003, 2147483647, 11, 13, 4294967231}

// some tells pairs of unlike primes, their rests in any form.
func some(r *rand.Rand) []api.Rest {
	var out []api.Rest
	for _, k := range r.Perm(len(primes))[:r.Intn(len(primes)+1)] {
		rest := r.Uint32()
		if r.Intn(4) == 0 {
			rest = []uint32{0, math.MaxUint32, primes[k], primes[k] - 1}[r.Intn(4)]
		}
		out = append(out, api.Rest{R: rest, P: primes[k]})
	}
	return out
}

// lifted: the signed lift by math/big.
func lifted(v, m *big.Int) *big.Int {
	if new(big.Int).Lsh(v, 1).Cmp(m) <= 0 {
		return v
	}
	return new(big.Int).Sub(v, m)
}

func TestPairs(t *testing.T) { // P6.1, P6.2, P6.3, P6.8, P6.9
	r := rand.New(rand.NewSource(1))
	for range 300 {
		l := some(r)
		c := crt.New()
		m := big.NewInt(1)
		var pairs []api.Rest
		for _, x := range l {
			if e := c.Add(x.R, x.P); e != api.OK {
				t.Fatalf("Add(%v): %d", x, e)
			}
			m.Mul(m, big.NewInt(int64(x.P)))
			pairs = append(pairs, api.Rest{R: x.R % x.P, P: x.P})
			if e := c.Add(x.R, x.P); e != api.ErrCrtTwice {
				t.Errorf("Add(%v) twice: %d", x, e)
			}
			if e := c.Add(1, 9); e != api.ErrPrime {
				t.Errorf("Add modulo 9: %d", e)
			}
			v := large(c.Value())
			for _, y := range pairs {
				if new(big.Int).Mod(v, big.NewInt(int64(y.P))).Int64() != int64(y.R) {
					t.Errorf("%v say %v", pairs, v)
				}
			}
			want(t, "Mod", c.Mod(), m)
			if v.Cmp(m) >= 0 {
				t.Errorf("%v is not below %v", v, m)
			}
			wantInt(t, "Signed", c.Signed(), lifted(v, m))
		}
		if !slices.Equal(c.Pairs(), pairs) {
			t.Errorf("Pairs: %v, want %v", c.Pairs(), pairs)
		}
		r.Shuffle(len(l), func(i, k int) { l[i], l[k] = l[k], l[i] })
		v, mod, e := crt.Of(l...)
		if e != api.OK {
			t.Errorf("Of(%v): %d", l, e)
		}
		want(t, "Of", v, large(c.Value()))
		want(t, "Of's product", mod, m)
	}
}

func TestExamples(t *testing.T) {
	v, m, e := crt.Of(api.Rest{R: 2, P: 3}, api.Rest{R: 3, P: 5})
	if fmt.Sprint(v, m, int(e)) != "[8] [15] 0" {
		t.Errorf("Of((2, 3), (3, 5)): %v, %v, %d", v, m, e)
	}
	v, m, e = crt.Of()
	if fmt.Sprint(v, m, int(e)) != "[] [1] 0" {
		t.Errorf("Of(): %v, %v, %d", v, m, e)
	}
	c := crt.New()
	if fmt.Sprint(c.Value(), c.Mod(), c.Signed().Mag, c.Pairs()) != "[] [1] [] []" {
		t.Error("one with no pairs")
	}
	c.Add(2, 3)
	c.Add(3, 5)
	wantInt(t, "Signed", c.Signed(), big.NewInt(-7))
	c = crt.New()
	c.Add(1, 2)
	wantInt(t, "Signed of 1 modulo 2", c.Signed(), big.NewInt(1))
}

func TestNotMade(t *testing.T) { // ErrMade ahead of all else
	var zero crt.Crt
	for _, c := range []*crt.Crt{nil, &zero, new(crt.Crt)} {
		if e := c.Add(1, 4); e != api.ErrMade {
			t.Errorf("Add to one that no call made: %d", e)
		}
		if len(c.Value())+len(c.Mod())+len(c.Signed().Mag)+len(c.Pairs()) > 0 {
			t.Error("one that no call made says something")
		}
	}
}

func TestRefused(t *testing.T) { // P6.1, P6.3, P6.5
	ok, twice, none := api.Rest{R: 1, P: 3}, api.Rest{R: 2, P: 3}, api.Rest{R: 0, P: 6}
	for _, c := range []struct {
		l     []api.Rest
		e     api.Errno
		steps int
	}{{[]api.Rest{ok, twice, none}, api.ErrCrtTwice, 1}, {[]api.Rest{ok, none, twice}, api.ErrPrime, 1}, {[]api.Rest{{R: 1, P: 0}}, api.ErrPrime, 0}, {[]api.Rest{{R: 1, P: 5}, ok, {R: 0, P: 1}}, api.ErrPrime, 2}, {[]api.Rest{{R: 1, P: 5}, ok, ok}, api.ErrCrtTwice, 2}} {
		v, m, e := crt.Of(c.l...)
		if e != c.e || len(v)+len(m) > 0 {
			t.Errorf("Of(%v): %v, %v, %d", c.l, v, m, e)
		}
		d, e := crt.Digits(c.l...)
		if e != c.e || len(d) > 0 {
			t.Errorf("Digits(%v): %v, %d", c.l, d, e)
		}
		n := 0
		for range crt.Steps(c.l...) {
			n++
		}
		if n != c.steps {
			t.Errorf("Steps(%v): %d", c.l, n)
		}
	}
}

func TestSteps(t *testing.T) { // P6.3, R3
	r := rand.New(rand.NewSource(2))
	for range 50 {
		l := some(r)
		k := 0
		for v, m := range crt.Steps(l...) {
			k++
			wv, wm, _ := crt.Of(l[:k]...)
			want(t, "Steps", v, large(wv))
			want(t, "Steps's product", m, large(wm))
			if len(v) > 0 {
				v[0] = 5
			}
			m[0] = 5
		}
		if k != len(l) {
			t.Errorf("Steps of %d: %d", len(l), k)
		}
	}
	l := []api.Rest{{R: 2, P: 3}, {R: 3, P: 5}, {R: 4, P: 7}}
	seq := crt.Steps(l...)
	l[0], l[1] = api.Rest{}, api.Rest{}
	text := ""
	for v := range seq {
		text += fmt.Sprint(v)
		for _, m := range seq {
			text += fmt.Sprint(m)
			break
		}
	}
	if text != "[2][3][8][3][53][3]" {
		t.Errorf("Steps nested: %s", text)
	}
}

func TestLift(t *testing.T) { // P6.4
	for _, c := range [][3]int64{{7, 15, 7}, {8, 15, -7}, {5, 10, 5}, {6, 10, -4}, {0, 1, 0}, {1, 2, 1}, {0, 2, 0}, {1 << 40, 1<<41 - 1, 1<<40 - 1<<41 + 1}} {
		got, e := crt.Lift(append(nat.Of(uint64(c[0])), 0), append(nat.Of(uint64(c[1])), 0))
		if e != api.OK {
			t.Errorf("Lift(%d, %d): %d", c[0], c[1], e)
		}
		wantInt(t, fmt.Sprint("Lift", c), got, big.NewInt(c[2]))
	}
	for _, c := range [][2]api.Nat{{nil, nil}, {nil, {0}}, {{5}, {5}}, {{6}, {5, 0}}, {{0, 1}, {9}}} {
		if got, e := crt.Lift(c[0], c[1]); e != api.ErrArg || len(got.Mag) > 0 {
			t.Errorf("Lift(%v, %v): %v, %d", c[0], c[1], got, e)
		}
	}
}

func TestLiftOfRests(t *testing.T) { // P6.9
	r := rand.New(rand.NewSource(3))
	for range 200 {
		x := new(big.Int).Rand(r, new(big.Int).Lsh(big.NewInt(1), uint(r.Intn(150))))
		if r.Intn(2) == 0 {
			x.Neg(x)
		}
		c := crt.New()
		for p := range prime.Between(4294966000, math.MaxUint32) {
			if large(c.Mod()).Cmp(new(big.Int).Lsh(new(big.Int).Abs(x), 1)) > 0 {
				break
			}
			c.Add(uint32(new(big.Int).Mod(x, big.NewInt(int64(p))).Uint64()), p)
		}
		wantInt(t, "the signed lift", c.Signed(), x)
	}
}

func TestDigits(t *testing.T) { // P6.5
	r := rand.New(rand.NewSource(4))
	for range 200 {
		l := some(r)
		digits, e := crt.Digits(l...)
		v, scale := new(big.Int), big.NewInt(1)
		for i, d := range digits {
			if d >= l[i].P {
				t.Errorf("Digits(%v): %v", l, digits)
			}
			v.Add(v, new(big.Int).Mul(scale, big.NewInt(int64(d))))
			scale.Mul(scale, big.NewInt(int64(l[i].P)))
		}
		w, _, _ := crt.Of(l...)
		if e != api.OK || len(digits) != len(l) {
			t.Errorf("Digits(%v): %v, %d", l, digits, e)
		}
		want(t, "what Digits say", w, v)
	}
	if d, _ := crt.Digits(api.Rest{R: 2, P: 3}, api.Rest{R: 3, P: 5}); !slices.Equal(d, []uint32{2, 2}) {
		t.Errorf("Digits: %v", d)
	}
}

func TestJoin(t *testing.T) { // P6.6
	r := rand.New(rand.NewSource(5))
	for range 1000 {
		bits := uint(r.Intn(100))
		m, n := new(big.Int).Rand(r, new(big.Int).Lsh(big.NewInt(1), bits)), new(big.Int).Rand(r, new(big.Int).Lsh(big.NewInt(1), uint(r.Intn(100))))
		m.Add(m, big.NewInt(1))
		n.Add(n, big.NewInt(1))
		a, b := new(big.Int).Rand(r, m), new(big.Int).Rand(r, n)
		v, mn, e := crt.Join(append(number(a), 0), number(m), number(b), append(number(n), 0))
		if new(big.Int).GCD(nil, nil, m, n).Int64() != 1 {
			if e != api.ErrCrtTwice || len(v)+len(mn) > 0 {
				t.Errorf("Join modulo %v, %v: %d", m, n, e)
			}
			continue
		}
		want(t, "Join's product", mn, new(big.Int).Mul(m, n))
		if x := large(v); e != api.OK || !normal(v) || x.Cmp(large(mn)) >= 0 || new(big.Int).Mod(x, m).Cmp(a) != 0 || new(big.Int).Mod(x, n).Cmp(b) != 0 {
			t.Errorf("Join(%v, %v, %v, %v): %v, %d", a, m, b, n, x, e)
		}
	}
	for _, c := range []struct {
		a, m, b, n uint64
		text       string
	}{{1, 4, 2, 9, "[29] [36] 0"}, {0, 4, 0, 6, "[] [] 60"}, {0, 0, 0, 1, "[] [] 1"}, {0, 1, 0, 0, "[] [] 1"}, {4, 4, 0, 6, "[] [] 1"}, {0, 4, 6, 6, "[] [] 1"}, {0, 1, 0, 1, "[] [1] 0"}, {0, 1, 3, 5, "[3] [5] 0"}, {3, 5, 0, 1, "[3] [5] 0"}} {
		v, mn, e := crt.Join(nat.Of(c.a), nat.Of(c.m), nat.Of(c.b), nat.Of(c.n))
		if got := fmt.Sprint(v, mn, int(e)); got != c.text {
			t.Errorf("Join%v: %s", c, got)
		}
	}
}

func TestRecon(t *testing.T) { // P6.7, P6.10: all of small moduli, by trying
	for m := int64(1); m < 60; m++ {
		for bound := int64(0); 2*bound*bound < m; bound++ {
			for v := range m {
				var found []string
				for y := int64(1); y <= bound; y++ {
					for x := -bound; x <= bound; x++ {
						if (x-v*y)%m == 0 && gcd(x, y) == 1 && gcd(m, y) == 1 {
							found = append(found, fmt.Sprint(x, "/", y))
						}
					}
				}
				got, e := crt.Recon(nat.Of(uint64(v)), nat.Of(uint64(m)), nat.Of(uint64(bound)))
				text := fmt.Sprint(signed(got.Num), "/", signed(got.Den))
				if len(found) == 0 && (e != api.ErrCrtNone || text != "0/0") || len(found) > 0 && (e != api.OK || text != found[0]) || len(found) > 1 {
					t.Errorf("Recon(%d, %d, %d): %s, %d, want %v", v, m, bound, text, e, found)
				}
			}
		}
	}
	for _, c := range []struct {
		v, m, bound uint64
		e           api.Errno
	}{{0, 0, 0, api.ErrArg}, {5, 5, 0, api.ErrArg}, {0, 2, 1, api.ErrArg}, {0, 8, 2, api.ErrArg}, {0, 9, 2, api.OK}, {4, 7, 1, api.ErrCrtNone}, {51, 101, 7, api.OK}, {0, 1, 0, api.ErrCrtNone}, {1, 100, math.MaxUint64, api.ErrArg}} {
		if got, e := crt.Recon(nat.Of(c.v), nat.Of(c.m), nat.Of(c.bound)); e != c.e || e != api.OK && len(got.Num.Mag)+len(got.Den.Mag) > 0 {
			t.Errorf("Recon(%d, %d, %d): %v, %d", c.v, c.m, c.bound, got, e)
		}
	}
}

func gcd(a, b int64) int64 {
	for b != 0 {
		a, b = b, a%b
	}
	return max(a, -a)
}

func TestLongRecon(t *testing.T) { // P6.10
	r := rand.New(rand.NewSource(6))
	for range 200 {
		bits := uint(r.Intn(200) + 1)
		bound := new(big.Int).Lsh(big.NewInt(1), bits)
		x := new(big.Int).Rand(r, bound)
		y := new(big.Int).Rand(r, bound)
		y.Add(y, big.NewInt(1))
		q := new(big.Rat).SetFrac(x, y)
		if r.Intn(2) == 0 {
			q.Neg(q)
		}
		m := new(big.Int).Rand(r, bound)
		m.Add(m, new(big.Int).Add(new(big.Int).Lsh(new(big.Int).Mul(bound, bound), 1), big.NewInt(1)))
		inverse := new(big.Int).ModInverse(q.Denom(), m)
		if inverse == nil {
			continue
		}
		v := inverse.Mod(inverse.Mul(inverse, q.Num()), m)
		got, e := crt.Recon(number(v), append(number(m), 0), append(number(bound), 0))
		if e != api.OK {
			t.Errorf("Recon of %v modulo %v: %d", q, m, e)
		}
		wantInt(t, "Recon's numerator", got.Num, q.Num())
		wantInt(t, "Recon's denominator", got.Den, q.Denom())
	}
}

func TestMemory(t *testing.T) { // R3
	room := make(api.Nat, 6)
	v, m, bound := append(room[:0], 51), append(api.Nat{}, 101, 0), append(api.Nat{}, 7)
	for range 2 {
		got, _ := crt.Recon(v, m, bound)
		got.Num.Mag[0], got.Den.Mag[0] = 9, 9
		x, _ := crt.Lift(api.Nat{3, 0}, m)
		x.Mag[0] = 9
		a, mn, _ := crt.Join(v, m, nil, api.Nat{1})
		a[0], mn[0] = 9, 9
		if !slices.Equal(room, api.Nat{51, 0, 0, 0, 0, 0}) || m[0] != 101 || bound[0] != 7 {
			t.Fatalf("what was handed in is %v, %v, %v", room, m, bound)
		}
	}
	c := crt.New()
	c.Add(2, 3)
	c.Add(1, 5)
	for range 2 {
		if fmt.Sprint(c.Value(), c.Mod(), c.Pairs(), zint.Sign(c.Signed())) != "[11] [15] [{2 3} {1 5}] -1" {
			t.Error("what was answered is kept")
		}
		c.Value()[0], c.Mod()[0], c.Signed().Mag[0], c.Pairs()[0] = 7, 7, 7, api.Rest{}
	}
}
