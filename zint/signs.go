package zint

import (
	"simile/api"
	"simile/nat"
)

// made: an integer of a size in normal form.
func made(neg bool, mag api.Nat) api.Int {
	return api.Int{Neg: neg && len(mag) > 0, Mag: mag}
}

func isZero(a api.Int) bool { return nat.Len(a.Mag) == 0 }

// place: where a sign stands in the tables.
func place(neg bool) int {
	if neg {
		return 1
	}
	return 0
}

// sizes are those of two numbers that are added.
type sizes struct{ a, b api.Nat }

func (s sizes) both() api.Int       { return made(false, nat.Add(s.a, s.b)) }
func (s sizes) bothBelow() api.Int  { return made(true, nat.Add(s.a, s.b)) }
func (s sizes) firstLess() api.Int  { return less(s.a, s.b) }
func (s sizes) secondLess() api.Int { return less(s.b, s.a) }

// less: a - b.
func less(a, b api.Nat) api.Int {
	if out, e := nat.Sub(a, b); e == api.OK {
		return made(false, out)
	}
	out, _ := nat.Sub(b, a)
	return made(true, out)
}

// added: the sum of two numbers, by their signs.
func added(neg bool, a api.Nat, neg2 bool, b api.Nat) api.Int {
	table := [2][2]func(sizes) api.Int{
		{sizes.both, sizes.firstLess},
		{sizes.secondLess, sizes.bothBelow},
	}
	return table[place(neg)][place(neg2)](sizes{a, b})
}

// A division's kinds: by where it leaves the remainder.
const (
	inward = iota // on the side of what is divided
	upward        // never below 0
)

// division is one of sizes: a is q b + r.
type division struct{ q, r, b api.Nat }

// whole: quotient and remainder of what is not below 0.
func (d division) whole() (api.Nat, api.Int) { return d.q, made(false, d.r) }

// mirrored: of what is below 0, with the remainder below 0.
func (d division) mirrored() (api.Nat, api.Int) { return d.q, made(true, d.r) }

// lifted: of what is below 0, with the remainder above 0.
func (d division) lifted() (api.Nat, api.Int) {
	if len(d.r) == 0 {
		return d.q, api.Int{}
	}
	rest, _ := nat.Sub(d.b, d.r)
	return nat.Add(d.q, nat.Of(1)), made(false, rest)
}

// divide: quotient and remainder, by the kind and the sign of what is divided.
func divide(a, b api.Int, kind int) (api.Int, api.Int, api.Errno) {
	q, r, e := nat.Div(a.Mag, b.Mag)
	if e != api.OK {
		return api.Int{}, api.Int{}, e
	}
	table := [2][2]func(division) (api.Nat, api.Int){
		inward: {division.whole, division.mirrored},
		upward: {division.whole, division.lifted},
	}
	size, rest := table[kind][place(a.Neg)](division{q, r, b.Mag})
	return made(a.Neg != b.Neg, size), rest, api.OK
}
