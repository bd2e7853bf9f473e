package verify

import (
	"simile/api"
	"simile/bareiss"
	"simile/prime"
	"simile/qmat"
	"simile/zint"
)

// witness is what a certificate is held against: a matrix's denominator, and the characteristic polynomial of so many
// times the matrix, which is one of integers.
type witness struct {
	den  api.Int
	char []api.Int
}

// witnessed: of a matrix with that characteristic polynomial.
func witnessed(m api.Mat, char api.Poly) witness {
	m, _ = qmat.Norm(m)
	w := witness{den: m.Den, char: make([]api.Int, len(char))}
	times := zint.Of(1)
	for i := len(char) - 1; i >= 0; i-- { // a coefficient has as many denominators as roots are multiplied in it
		w.char[i], _ = zint.Exact(zint.Mul(char[i].Num, times), char[i].Den)
		times = zint.Mul(times, m.Den)
	}
	return w
}

func (w witness) isDen(d api.Int) bool { return zint.Cmp(d, w.den) == 0 }

// arePrimes: are they primes that do not divide the denominator, and none of them there twice?
func (w witness) arePrimes(l []api.Pair) bool {
	places := map[uint32]int{}
	for i, x := range l {
		if _, there := places[x.P]; there || !prime.Is(x.P) {
			return false
		}
		places[x.P] = i
		if rest, _ := zint.Mod(w.den, x.P); rest == 0 {
			return false
		}
	}
	return true
}

// isBound: is it at least each coefficient's size?
func (w witness) isBound(b api.Int) bool {
	for _, c := range w.char {
		if zint.Cmp(zint.Abs(c), b) > 0 {
			return false
		}
	}
	return true
}

// areEnough: is the primes' product above twice the bound, and is it not without the last one?
func areEnough(b api.Int, l []api.Pair) bool {
	twice, before, product := zint.Add(b, b), zint.Of(1), zint.Of(1)
	for _, x := range l {
		before, product = product, zint.Mul(product, zint.Of(int64(x.P)))
	}
	return len(l) > 0 && zint.Cmp(product, twice) > 0 && zint.Cmp(before, twice) <= 0
}

// areImages: is each one the polynomial modulo its prime, in normal form?
func (w witness) areImages(l []api.Pair) bool {
	for _, x := range l {
		if len(x.C) != len(w.char) {
			return false
		}
		for i, c := range w.char {
			if rest, _ := zint.Mod(c, x.P); rest != x.C[i] {
				return false
			}
		}
	}
	return true
}

// areIndependent: of matrices of one size. If their rows of entries are independent modulo a prime, they are; if they
// are not, the rank says it.
func areIndependent(l []api.Mat) bool {
	var rows [][]api.Int
	for _, m := range l {
		var row []api.Int
		for _, part := range m.Num {
			row = append(row, part...)
		}
		if rows = append(rows, row); len(rows) > len(row) {
			return false
		}
	}
	p, _ := prime.Last(^uint32(0))
	if rankModulo(rows, uint64(p)) == len(rows) {
		return true
	}
	rank, _ := bareiss.Rank(api.Mat{Den: zint.Of(1), Num: rows})
	return rank == len(rows)
}

// rankModulo: the rank modulo a prime; over the fractions it is not less.
func rankModulo(rows [][]api.Int, p uint64) int {
	table := make([][]uint64, len(rows))
	for i, row := range rows {
		table[i] = make([]uint64, len(row))
		for k, x := range row {
			rest, _ := zint.Mod(x, uint32(p))
			table[i][k] = uint64(rest)
		}
	}
	rank := 0
	for i, row := range table {
		at := 0
		for at < len(row) && row[at] == 0 {
			at++
		}
		if at == len(row) {
			continue
		}
		rank++
		unit, _ := prime.Inv(uint32(row[at]), uint32(p))
		for _, other := range table[i+1:] {
			if other[at] == 0 {
				continue
			}
			less := p - other[at]*uint64(unit)%p
			for k := at; k < len(row); k++ {
				other[k] = (other[k] + less*row[k]) % p
			}
		}
	}
	return rank
}
