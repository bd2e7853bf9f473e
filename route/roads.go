package route

import (
	"slices"

	"simile/api"
	"simile/charfree"
	"simile/companion"
	"simile/frob"
	"simile/modroute"
	"simile/qpoly"
	"simile/smith"
)

// The names of the roads.
const (
	byBerkowitz    = "berkowitz"
	byInterpolated = "interpolated"
	byLeverrier    = "leverrier"
	bySmith        = "smith"
	byFactors      = "factors"
	byModular      = "modular"
)

// road is one that is not certified, known by its name.
type road string

func (r road) Name() string { return string(r) }

func (r road) Char(m api.Mat) (api.Poly, api.Errno) {
	switch r {
	case byBerkowitz:
		return charfree.Berkowitz(m)
	case byInterpolated:
		return charfree.Interpolated(m)
	case byLeverrier:
		f, _, e := charfree.Leverrier(m)
		return f, e
	case bySmith:
		return product(smith.Factors(m))
	case byFactors:
		return product(frob.Invariants(m))
	}
	f, _, e := modroute.Char(m)
	return f, e
}

// product: of a matrix's factors, if there is no error.
func product(l []api.Poly, e api.Errno) (api.Poly, api.Errno) {
	if e != api.OK {
		return nil, e
	}
	return companion.Char(l...)
}

// certain is the certified road.
type certain struct{ road }

func (c certain) Prove(m api.Mat) (api.Poly, api.Cert, api.Errno) { return modroute.Char(m) }

// roads: all of them, in their order.
func roads() []Route {
	return []Route{road(byBerkowitz), road(byInterpolated), road(byLeverrier), road(bySmith), road(byFactors), certain{byModular}}
}

// answer is what a road says.
type answer struct {
	by   string
	poly api.Poly
}

func (a answer) By() string { return a.by }

// Poly: in new memory each time.
func (a answer) Poly() api.Poly {
	out, _ := qpoly.Norm(a.poly)
	return out
}

// proof is what the certified road says.
type proof struct {
	answer
	cert api.Cert
}

// Cert: in new memory each time.
func (p proof) Cert() api.Cert {
	out := api.Cert{D: copied(p.cert.D), Bound: copied(p.cert.Bound)}
	for _, x := range p.cert.Pairs {
		out.Pairs = append(out.Pairs, api.Pair{P: x.P, C: slices.Clone(x.C)})
	}
	return out
}

func copied(x api.Int) api.Int { return api.Int{Neg: x.Neg, Mag: slices.Clone(x.Mag)} }

// matCopied: a matrix in new memory.
func matCopied(m api.Mat) api.Mat {
	out := api.Mat{Den: copied(m.Den)}
	for _, row := range m.Num {
		var l []api.Int
		for _, x := range row {
			l = append(l, copied(x))
		}
		out.Num = append(out.Num, l)
	}
	return out
}
