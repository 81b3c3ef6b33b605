package roots

import (
	"ashlar/api"
	"ashlar/limbs"
	"ashlar/residue"
)

// prime is a prime number modulo which is reckoned.
type prime struct{ residue.Prime }

// doubleBelow is where looking at every residue begins to be slow.
const doubleBelow = 1 << 20

// firstPrime is a little above a power of 2, as are twice it and so on: then the
// bits of a power of it are nearly told by its own.
func firstPrime() prime { return prime{131} }

// next gives a greater prime, at first about twice as great: numbers that are
// many, or that differ by a multiple of all small primes, soon differ modulo it.
// A call comes nowhere near 2^31: the primes that can't be taken divide one
// number, which is not greater than what was handed in can make it.
func (m prime) next() prime {
	n := m.Prime + 2
	if m.Prime < doubleBelow {
		n = 2*m.Prime + 1
	}
	for !residue.IsPrime(int64(n)) {
		n += 2
	}
	return prime{n}
}

func (m prime) deriv(a []uint64) []uint64 {
	var out []uint64
	for i, c := range a {
		if i > 0 {
			out = append(out, m.Times(uint64(i)%uint64(m.Prime), c))
		}
	}
	return out
}

// roots gives the residues at which p is zero, and tells whether each of them is
// a single root; none, if not.
func (m prime) roots(p api.Poly) ([]root, bool) {
	entries := m.Entries(p)
	slopes := m.deriv(entries)
	var out []root
	for x := range uint64(m.Prime) {
		if m.Eval(entries, x) != 0 {
			continue
		}
		slope := m.Eval(slopes, x)
		if slope == 0 {
			return nil, false
		}
		out = append(out, root{limbs.Of(int64(x)), limbs.Of(int64(m.Inverse(slope)))})
	}
	return out, true
}
