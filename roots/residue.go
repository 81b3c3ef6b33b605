package roots

import (
	"ashlar/api"
	"ashlar/limbs"
)

// prime is a prime number modulo which is reckoned. It is below 2^31, so that a
// product of two residues, and one more, fit into 64 bits.
type prime uint64

const (
	// firstPrime is a little above a power of 2, as are twice it and so on: then
	// the bits of a power of it are nearly told by its own.
	firstPrime prime = 131
	// doubleBelow is where looking at every residue begins to be slow.
	doubleBelow prime = 1 << 20
)

// next gives a greater prime, at first about twice as great: numbers that are
// many, or that differ by a multiple of all small primes, soon differ modulo it.
// A call comes nowhere near 2^31: the primes that can't be taken divide one
// number, which is not greater than what was handed in can make it.
func (m prime) next() prime {
	n := m + 2
	if m < doubleBelow {
		n = 2*m + 1
	}
	for !n.isPrime() {
		n += 2
	}
	return n
}

// isPrime tells it of an odd number.
func (m prime) isPrime() bool {
	for d := prime(3); d*d <= m; d += 2 {
		if m%d == 0 {
			return false
		}
	}
	return true
}

func (m prime) times(a, b uint64) uint64 { return a * b % uint64(m) }

// inverse gives 1 over a, which is not 0 (Fermat's little theorem).
func (m prime) inverse(a uint64) uint64 {
	z := uint64(1)
	for n := uint64(m) - 2; n > 0; n /= 2 {
		if n%2 == 1 {
			z = m.times(z, a)
		}
		a = m.times(a, a)
	}
	return z
}

func (m prime) residues(p api.Poly) []uint64 {
	out := make([]uint64, len(p))
	for i, c := range p {
		r, _ := limbs.Mod(c, int64(m))
		out[i] = uint64(r)
	}
	return out
}

func (m prime) deriv(a []uint64) []uint64 {
	var out []uint64
	for i, c := range a {
		if i > 0 {
			out = append(out, m.times(uint64(i)%uint64(m), c))
		}
	}
	return out
}

func (m prime) eval(a []uint64, x uint64) uint64 {
	z := uint64(0)
	for i := len(a) - 1; i >= 0; i-- {
		z = (z*x + a[i]) % uint64(m)
	}
	return z
}

// roots gives the residues at which p is zero, and tells whether each of them is
// a single root; none, if not.
func (m prime) roots(p api.Poly) ([]root, bool) {
	entries := m.residues(p)
	slopes := m.deriv(entries)
	var out []root
	for x := range uint64(m) {
		if m.eval(entries, x) != 0 {
			continue
		}
		slope := m.eval(slopes, x)
		if slope == 0 {
			return nil, false
		}
		out = append(out, root{limbs.Of(int64(x)), limbs.Of(int64(m.inverse(slope)))})
	}
	return out, true
}
