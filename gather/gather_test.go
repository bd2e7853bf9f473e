package gather_test

import (
	"math/rand"
	"testing"

	"simile/api"
	"simile/gather"
	"simile/qmat"
	"simile/rat"
	"simile/space"
	"simile/zint"
)

func someVec(r *rand.Rand, n int) api.Vec {
	out := api.Vec{Den: zint.Of(int64(r.Intn(3) + 1))}
	for range n {
		out.Num = append(out.Num, zint.Of(int64(r.Intn(7)-3)))
	}
	return out
}

func TestTakeAndClear(t *testing.T) {
	r := rand.New(rand.NewSource(1))
	for range 200 {
		n := r.Intn(5) + 1
		var g gather.Gathering
		var l []api.Vec
		for range n + 2 {
			v := someVec(r, n)
			_, independent, _ := space.Independent(n, append(l, v)...)
			c := g.Take(v)
			if c.Depends() == independent {
				t.Fatalf("Take(%v) behind %v: %t", v, l, c.Depends())
			}
			if independent {
				l = append(l, v)
				continue
			}
			sum, _ := qmat.VecAdd(v, v, rat.Of(-1))
			for i, times := range c.Multiples() {
				sum, _ = qmat.VecAdd(sum, l[i], times)
			}
			if same, _ := qmat.VecEqual(sum, v); !same {
				t.Errorf("%v is not so many times %v", v, l)
			}
		}
		if g.Count() != len(l) {
			t.Errorf("Count: %d, want %d", g.Count(), len(l))
		}
		if len(l) > 0 {
			g.Cut(len(l) - 1)
			if g.Count() != len(l)-1 || g.Clear(l[len(l)-1]).Depends() {
				t.Error("Cut")
			}
		}
	}
}

func TestStart(t *testing.T) {
	var g gather.Gathering
	g.Start([]api.Int{zint.Of(0), zint.Of(2), zint.Of(0)})
	g.Start([]api.Int{zint.Of(0), zint.Of(4), zint.Of(0)})
	one := api.Vec{Den: zint.Of(1), Num: []api.Int{zint.Of(1), zint.Of(0), zint.Of(0)}}
	c := g.Take(one)
	both := g.Take(api.Vec{Den: zint.Of(2), Num: []api.Int{zint.Of(6), zint.Of(5), zint.Of(0)}})
	if c.Depends() || !both.Depends() || len(both.Multiples()) != 1 {
		t.Fatal("Take behind Start")
	}
	if same, _ := rat.Cmp(both.Multiples()[0], rat.Of(3)); same != 0 {
		t.Errorf("Multiples: %v", both.Multiples())
	}
}

func TestDual(t *testing.T) {
	r := rand.New(rand.NewSource(2))
	for range 100 {
		n := r.Intn(5) + 1
		var g gather.Gathering
		for g.Count() < n {
			g.Take(someVec(r, n))
		}
		for i := range n {
			w := g.Dual(i)
			for k, v := range g.Vectors() {
				dot, _ := qmat.Apply(api.Mat{Den: w.Den, Num: [][]api.Int{w.Num}}, v)
				want := api.Vec{Den: zint.Of(1), Num: []api.Int{{}}}
				if i == k {
					want.Num[0] = zint.Of(1)
				}
				if same, _ := qmat.VecEqual(dot, want); !same {
					t.Errorf("Dual(%d) times vector %d: %v", i, k, dot)
				}
			}
		}
	}
}
