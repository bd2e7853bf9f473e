package frob

import (
	"simile/api"
	"simile/gather"
	"simile/qmat"
	"simile/qpoly"
	"simile/rat"
)

// decomposition finds cyclic spaces that make up all, one by one: that of a vector whose polynomial into the space of
// those found is the greatest one, put right so that it meets that space in 0 alone.
type decomposition struct {
	m     api.Mat
	units []api.Vec
	g     gather.Gathering // v, A v, .. of each part
	parts []part
}

// part is a vector, the least polynomial that makes 0 of it, and where the vector is gathered.
type part struct {
	vector api.Vec
	poly   api.Poly
	first  int
}

func (p part) degree() int { return len(p.poly) - 1 }

// trial is a vector, and the least polynomial that leads it into the space of the parts: to so many times each
// gathered vector.
type trial struct {
	vector api.Vec
	poly   api.Poly
	inside []api.Rat
}

func (t trial) degree() int { return len(t.poly) - 1 }

func begun(m api.Mat) *decomposition {
	m, _ = qmat.Norm(m)
	id, _ := qmat.Identity(len(m.Num))
	units, _ := qmat.Columns(id)
	return &decomposition{m: m, units: units}
}

// next finds one part more.
func (d *decomposition) next() {
	first := d.g.Count()
	t := d.greatest(first)
	switch {
	case !areNoughts(t.inside):
		t = d.follow(d.corrected(t), first)
		if !areNoughts(t.inside) {
			panic(impossible{"a vector that was put right leads into the space of the parts"})
		}
		fallthrough
	default:
		d.parts = append(d.parts, part{t.vector, t.poly, first})
	}
}

// greatest: the trial of a vector whose polynomial leads all vectors into the space of the parts. It is left gathered.
func (d *decomposition) greatest(first int) trial {
	var best trial
search:
	for _, unit := range d.units {
		switch {
		case best.degree() == len(d.units)-first: // no greater one can be
			break search
		case best.degree() < 1:
			best = d.follow(unit, first)
		case !d.leads(best.poly, unit, first):
			best = d.joined(best, unit, first)
		}
	}
	if d.g.Count() == first+best.degree() {
		return best
	}
	return d.follow(best.vector, first)
}

// joined: the trial of a vector whose polynomial leads both vectors into the space of the parts: one with some multiple
// of the other. To each irreducible divisor there is but one multiple that lacks it.
func (d *decomposition) joined(a trial, b api.Vec, first int) trial {
	for k := 1; k <= len(d.units)+1; k++ {
		sum, _ := qmat.VecAdd(a.vector, b, rat.Of(int64(k)))
		if t := d.follow(sum, first); d.leads(t.poly, b, first) {
			return t
		}
	}
	panic(impossible{"no multiple joins two vectors"})
}

// follow gathers v, A v, .. behind the first ones, till one depends.
func (d *decomposition) follow(v api.Vec, first int) trial {
	d.g.Cut(first)
	at, _ := qmat.VecNorm(v)
	t := trial{vector: at}
	for {
		r := d.g.Take(at)
		if r.Depends() {
			times := r.Multiples()
			t.inside = times[:first:first]
			for _, c := range times[first:] {
				c, _ = rat.Neg(c)
				t.poly = append(t.poly, c)
			}
			t.poly = append(t.poly, rat.Of(1))
			return t
		}
		at, _ = qmat.Apply(d.m, at)
	}
}

// leads: is f at the matrix, times v, in the space of the parts?
func (d *decomposition) leads(f api.Poly, v api.Vec, first int) bool {
	d.g.Cut(first)
	at, _ := qmat.VecAdd(v, v, rat.Of(-1))
	for i := len(f) - 1; i >= 0; i-- {
		at, _ = qmat.Apply(d.m, at)
		at, _ = qmat.VecAdd(at, v, f[i])
	}
	return d.g.Clear(at).Depends()
}

// corrected: the trial's vector less what its polynomial leads to, over that polynomial: this is whole in each part,
// since the part's polynomial was the greatest one.
func (d *decomposition) corrected(t trial) api.Vec {
	out := t.vector
	for _, p := range d.parts {
		to := api.Poly(t.inside[p.first : p.first+p.degree()])
		over, rest, _ := qpoly.Div(to, t.poly)
		if len(rest) > 0 {
			panic(impossible{"a polynomial into the space of the parts that does not divide"})
		}
		for i, v := range d.of(p)[:len(over)] {
			c, _ := rat.Neg(over[i])
			out, _ = qmat.VecAdd(out, v, c)
		}
	}
	return out
}

// of: the gathered vectors of a part.
func (d *decomposition) of(p part) []api.Vec {
	return d.g.Vectors()[p.first : p.first+p.degree()]
}

func areNoughts(l []api.Rat) bool {
	for _, c := range l {
		if sign, _ := rat.Sign(c); sign != 0 {
			return false
		}
	}
	return true
}
