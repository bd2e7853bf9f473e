package zpoly

import (
	"simile/api"
	"simile/zint"
)

// chain is a place in the chain of subresultants: the last two of them, the lead of the one ahead of
// them, and the factor by which the next one is too great. (Cohen, A Course in Computational Algebraic
// Number Theory, 3.3.)
type chain struct {
	a, b        api.IntPoly
	lead, scale api.Int
	turned      bool // the resultant of the last two has the other sign
}

// next goes one place on; it tells whether there is a further one.
func (c *chain) next() bool {
	if len(c.b) < 2 {
		return false
	}
	drop := len(c.a) - len(c.b)
	if len(c.a)%2 == 0 && len(c.b)%2 == 0 { // both degrees are odd
		c.turned = !c.turned
	}
	_, rest := pseudo(c.a, c.b)
	factor := zint.Mul(c.lead, power(c.scale, drop))
	c.a, c.b = c.b, over(rest, factor)
	c.lead = top(c.a)
	c.scale = c.raised(c.lead, drop)
	return true
}

// raised: x^k over scale^(k-1), which is whole in the chain; scale, if k is 0.
func (c *chain) raised(x api.Int, k int) api.Int {
	if k == 0 {
		return c.scale
	}
	out, _ := zint.Exact(power(x, k), power(c.scale, k-1))
	return out
}

// walk takes steps till there is no further one.
func walk(step func() bool) {
	for step() {
	}
}

// pseudo is Pseudo of a b of no greater degree. Only as many coefficients as b has are in work at a time:
// those below come in with as many of b's leads as there were steps.
func pseudo(a, b api.IntPoly) (api.IntPoly, api.IntPoly) {
	m := len(b) - 1
	lead := top(b)
	q := make(api.IntPoly, len(a)-m)
	leads := powers(lead, len(q))
	rest := append(api.IntPoly{{}}, a[len(q):]...) // a place for what comes in, and the m highest ones
	for k := len(q) - 1; k >= 0; k-- {
		rest[0] = zint.Mul(a[k], leads[len(q)-1-k])
		digit := rest[m]
		q[k] = zint.Mul(digit, leads[k])
		for i := m; i > 0; i-- {
			rest[i] = zint.Sub(zint.Mul(rest[i-1], lead), zint.Mul(digit, b[i-1]))
		}
	}
	return trim(q), trim(rest[1:])
}
