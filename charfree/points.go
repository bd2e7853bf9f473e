package charfree

import (
	"sync"

	"simile/api"
	"simile/qpoly"
	"simile/rat"
)

// point is a place and the value there.
type point struct {
	x int
	y api.Rat
}

// interpolated: the polynomial of a degree of at most n with these values at 0, 1, .., n.
func interpolated(n int, value func(x int64) api.Rat) api.Poly {
	points := make(chan point, n+1)
	var group sync.WaitGroup
	for x := range n + 1 {
		group.Add(1)
		go func() {
			defer group.Done()
			points <- point{x, value(int64(x))}
		}()
	}
	group.Wait()
	close(points)
	values := make([]api.Rat, n+1)
	for p := range points {
		values[p.x] = p.y
	}
	return newton(values)
}

// newton: the polynomial of values at 0, 1, .., by their differences.
func newton(values []api.Rat) api.Poly {
	n := len(values)
	for k := 1; k < n; k++ { // what stands at i becomes the difference of order k, over k
		for i := n - 1; i >= k; i-- {
			less, _ := rat.Sub(values[i], values[i-1])
			values[i], _ = rat.Quo(less, rat.Of(int64(k)))
		}
	}
	var out api.Poly
	for i := n - 1; i >= 0; i-- {
		out, _ = qpoly.Mul(out, api.Poly{rat.Of(int64(-i)), rat.Of(1)})
		out, _ = qpoly.Add(out, api.Poly{values[i]})
	}
	return out
}
