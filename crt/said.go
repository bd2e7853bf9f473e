package crt

import (
	"errors"

	"simile/api"
	"simile/nat"
	"simile/prime"
	"simile/zint"
)

// said is what some pairs say: the value modulo the product of their primes.
type said struct {
	value, mod api.Nat
	pairs      []api.Rest
	places     map[uint32]int // where a prime stands among the pairs
}

func nothingSaid() said {
	return said{mod: nat.Of(1), places: map[uint32]int{}}
}

// refusal is a pair that can't be one more, and why.
type refusal struct {
	pair api.Rest
	why  api.Errno
}

func (r refusal) Error() string { return "a pair is refused: " + r.why.Error() }

func (r refusal) Unwrap() error { return r.why }

// number: an error's, as a call answers it.
func number(err error) api.Errno {
	switch {
	case err == nil:
		return api.OK
	case errors.Is(err, api.ErrPrime):
		return api.ErrPrime
	}
	return api.ErrCrtTwice
}

// step adds a pair, and tells its digit: how many times the product so far is added to the value.
func (s *said) step(pair api.Rest) (uint32, error) {
	if !prime.Is(pair.P) {
		return 0, refusal{pair, api.ErrPrime}
	}
	if _, there := s.places[pair.P]; there {
		return 0, refusal{pair, api.ErrCrtTwice}
	}
	value, _ := zint.Mod(plain(s.value), pair.P)
	mod, _ := zint.Mod(plain(s.mod), pair.P)
	lack, _ := prime.Sub(pair.R, value, pair.P)
	digit, _ := prime.Quo(lack, mod, pair.P)
	s.value = nat.Add(s.value, nat.Mul(s.mod, nat.Of(uint64(digit))))
	s.mod = nat.Mul(s.mod, nat.Of(uint64(pair.P)))
	s.places[pair.P] = len(s.pairs)
	s.pairs = append(s.pairs, api.Rest{R: pair.R % pair.P, P: pair.P})
	return digit, nil
}
