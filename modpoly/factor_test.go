package modpoly_test

import (
	"fmt"
	"math/rand"
	"slices"
	"testing"

	"simile/api"
	"simile/modpoly"
)

func less(a, b api.ModPoly) int {
	if len(a) != len(b) {
		return len(a) - len(b)
	}
	return slices.Compare(a, b)
}

// sieve tells the monic irreducible polynomials up to a degree.
func sieve(most int, p uint32) []api.ModPoly {
	split := map[string]int{}
	for d := 1; d <= most; d++ {
		for k := d; d+k <= most; k++ {
			for _, a := range all(d, p) {
				for _, b := range all(k, p) {
					split[fmt.Sprint(product(a, b, p))]++
				}
			}
		}
	}
	var out []api.ModPoly
	for d := 1; d <= most; d++ {
		for _, a := range all(d, p) {
			if split[fmt.Sprint(a)] == 0 {
				out = append(out, a)
			}
		}
	}
	return out
}

func TestIrreducible(t *testing.T) { // P8.10
	for p, most := range map[uint32]int{2: 7, 3: 5, 5: 4, 7: 3} {
		is := map[string]int{}
		for _, a := range sieve(most, p) {
			is[fmt.Sprint(a)] = 1
		}
		for d := range most + 1 {
			for _, a := range all(d, p) {
				got, e := modpoly.Irreducible(append(combined(nil, a, p-1, p), 0), p)
				if got != (is[fmt.Sprint(a)] == 1) || e != api.OK {
					t.Errorf("Irreducible(%v, %d): %t, %d", a, p, got, e)
				}
			}
		}
	}
	if got, e := modpoly.Irreducible(api.ModPoly{7}, 7); got || e != api.OK {
		t.Errorf("Irreducible(0): %t, %d", got, e)
	}
}

func TestFactorSmall(t *testing.T) { // P8.10, P8.14: products of irreducible ones come apart again
	r := rand.New(rand.NewSource(1))
	for p, most := range map[uint32]int{2: 7, 3: 5, 5: 4, 7: 3} {
		irreducible := sieve(most, p)
		for range 150 {
			var w []api.ModPoly
			a := api.ModPoly{1 + r.Uint32()%(p-1)}
			for range r.Intn(7) {
				x := irreducible[r.Intn(len(irreducible))]
				for range []int{1, 1, 1, 2, int(p), 2 * int(p)}[r.Intn(6)] {
					w = append(w, x)
					a = product(a, x, p)
				}
			}
			slices.SortFunc(w, less)
			got, e := modpoly.Factor(append(a, p), p)
			if e != api.OK || !slices.EqualFunc(got, w, func(x, y api.ModPoly) bool { return slices.Equal(x, y) }) {
				t.Fatalf("Factor(%v, %d): %v, %d, want %v", a, p, got, e, w)
			}
		}
	}
}

func TestFactorOfMany(t *testing.T) { // P8.10: all irreducible ones of a degree at once
	for _, c := range []struct {
		p uint32
		n uint64
	}{{2, 64}, {2, 128}, {2, 256}, {3, 27}, {3, 81}, {5, 25}, {7, 49}, {101, 101}} {
		a := make(api.ModPoly, c.n+1)
		a[c.n], a[1] = 1, c.p-1 // x^n - x: the product of all of a degree that divides n's logarithm
		check(t, a, c.p)
	}
	check(t, append(make(api.ModPoly, 120), 1, 1), 2)
	check(t, append(append(api.ModPoly{1}, make(api.ModPoly, 62)...), 1), 2)  // x^63 + 1
	check(t, append(append(api.ModPoly{1}, make(api.ModPoly, 126)...), 1), 2) // x^127 + 1: 18 of degree 7
	check(t, append(append(api.ModPoly{2}, make(api.ModPoly, 79)...), 1), 3)  // x^80 - 1
}

// check holds Factor against what it promises.
func check(t *testing.T, a api.ModPoly, p uint32) {
	t.Helper()
	got, e := modpoly.Factor(a, p)
	a = reduced(a, p)
	w := api.ModPoly{a[len(a)-1]}
	var places []uint32
	for i, x := range got {
		w = product(w, x, p)
		if is, _ := modpoly.Irreducible(x, p); !is || x[len(x)-1] != 1 || i > 0 && less(got[i-1], x) > 0 {
			t.Errorf("Factor(%v, %d): %v", a, p, got)
		}
		if len(x) == 2 && (len(places) == 0 || places[len(places)-1] != (p-x[0])%p) {
			places = append(places, (p-x[0])%p)
		}
	}
	want(t, "the factors' product", w, e, a)
	roots, e := modpoly.Roots(a, p)
	slices.Sort(places)
	want(t, "the roots", roots, e, places)
}

func TestFactorLarge(t *testing.T) { // P8.10, P8.14
	r := rand.New(rand.NewSource(2))
	for _, p := range primes {
		for range 12 {
			a := some(r, 9)
			b, c := some(r, 4), some(r, 4)
			a = product(a, product(b, product(b, c, p), p), p)
			if len(a) > 0 {
				check(t, a, p)
			}
		}
	}
	for _, c := range []struct {
		a    api.ModPoly
		p    uint32
		text string
	}{{api.ModPoly{0, 0, 2}, 5, "[[0 1] [0 1]] 0"}, {api.ModPoly{3}, 7, "[] 0"}, {api.ModPoly{7}, 7, "[] 70"}, {nil, 7, "[] 70"}, {api.ModPoly{6, 0, 1}, 7, "[[1 1] [6 1]] 0"}} {
		got, e := modpoly.Factor(c.a, c.p)
		if text := fmt.Sprint(got, int(e)); text != c.text {
			t.Errorf("Factor(%v, %d): %s", c.a, c.p, text)
		}
	}
}

func TestMemory(t *testing.T) { // R3: what is handed in stays, what is answered is new
	const p = 7
	calls := map[string]func(a, b api.ModPoly) []api.ModPoly{
		"Normal": func(a, b api.ModPoly) []api.ModPoly { x, _ := modpoly.Normal(a, p); return []api.ModPoly{x} },
		"Monic":  func(a, b api.ModPoly) []api.ModPoly { x, _ := modpoly.Monic(a, p); return []api.ModPoly{x} },
		"Add":    func(a, b api.ModPoly) []api.ModPoly { x, _ := modpoly.Add(a, b, p); return []api.ModPoly{x} },
		"Sub":    func(a, b api.ModPoly) []api.ModPoly { x, _ := modpoly.Sub(a, b, p); return []api.ModPoly{x} },
		"Mul":    func(a, b api.ModPoly) []api.ModPoly { x, _ := modpoly.Mul(a, b, p); return []api.ModPoly{x} },
		"Scale":  func(a, b api.ModPoly) []api.ModPoly { x, _ := modpoly.Scale(a, 1, p); return []api.ModPoly{x} },
		"Shift":  func(a, b api.ModPoly) []api.ModPoly { x, _ := modpoly.Shift(a, 0, p); return []api.ModPoly{x} },
		"Div":    func(a, b api.ModPoly) []api.ModPoly { x, y, _ := modpoly.Div(a, b, p); return []api.ModPoly{x, y} },
		"Gcd":    func(a, b api.ModPoly) []api.ModPoly { x, _ := modpoly.Gcd(a, b, p); return []api.ModPoly{x} },
		"Lcm":    func(a, b api.ModPoly) []api.ModPoly { x, _ := modpoly.Lcm(a, b, p); return []api.ModPoly{x} },
		"Bezout": func(a, b api.ModPoly) []api.ModPoly {
			x, y, z, _ := modpoly.Bezout(a, b, p)
			return []api.ModPoly{x, y, z}
		},
		"Deriv":   func(a, b api.ModPoly) []api.ModPoly { x, _ := modpoly.Deriv(a, p); return []api.ModPoly{x} },
		"Pow":     func(a, b api.ModPoly) []api.ModPoly { x, _ := modpoly.Pow(a, 1, b, p); return []api.ModPoly{x} },
		"Invert":  func(a, b api.ModPoly) []api.ModPoly { x, _ := modpoly.Invert(a, b, p); return []api.ModPoly{x} },
		"Compose": func(a, b api.ModPoly) []api.ModPoly { x, _ := modpoly.Compose(a, b, p); return []api.ModPoly{x} },
		"Roots":   func(a, b api.ModPoly) []api.ModPoly { x, _ := modpoly.Roots(a, p); return []api.ModPoly{x} },
		"Factor":  func(a, b api.ModPoly) []api.ModPoly { x, _ := modpoly.Factor(a, p); return x },
		"Free": func(a, b api.ModPoly) []api.ModPoly {
			modpoly.Free(a, p)
			modpoly.Irreducible(a, p)
			modpoly.Degree(a, p)
			return nil
		},
		"Interp": func(a, b api.ModPoly) []api.ModPoly {
			x, _ := modpoly.Interp([]api.Node{{X: 1, Y: 2}}, p)
			return []api.ModPoly{x}
		},
	}
	r := rand.New(rand.NewSource(3))
	for what, call := range calls {
		for k := range 50 {
			a, b := append(some(r, 5), 8, 9), append(some(r, 4), 8, 9)
			if k == 0 {
				a, b = api.ModPoly{0, 0, 0, 1, 8, 9}, api.ModPoly{1, 8, 9}
			}
			keptA, keptB := slices.Clone(a), slices.Clone(b)
			la, lb := len(a)-2, len(b)-2
			text := fmt.Sprint(call(a[:la], b[:lb]))
			out := call(a[:la], b[:lb])
			for i := range out {
				room := out[i][:cap(out[i])]
				for j := range room {
					room[j] = uint32(i) + 100
				}
			}
			for i := range out {
				if slices.ContainsFunc(out[i], func(x uint32) bool { return x != uint32(i)+100 }) {
					t.Errorf("%s: two lists of the answer share memory", what)
				}
			}
			if !slices.Equal(a, keptA) || !slices.Equal(b, keptB) || fmt.Sprint(call(a[:la], b[:lb])) != text {
				t.Errorf("%s changes what is handed in, or shares it", what)
			}
		}
	}
}
