package upoly

import (
	"math"
	"math/bits"

	"ashlar/api"
	"ashlar/limbs"
)

// prime is a prime number modulo which is reckoned. It is below 2^31, so that a
// product of two residues, and one more, fit into 64 bits.
type prime uint64

const greatestPrime prime = math.MaxInt32

// below gives the next prime. A call comes nowhere near the end of them: there
// are more than a hundred million.
func (m prime) below() prime {
	n := m - 2
	for !n.isPrime() {
		n -= 2
	}
	return n
}

// isPrime tells it of an odd number from 9 to 2^31 - 1: these four bases leave
// no doubt there (Miller's test).
func (m prime) isPrime() bool {
	for _, base := range [...]uint64{2, 3, 5, 7} {
		if !m.passes(base) {
			return false
		}
	}
	return true
}

// passes tells whether the powers of a base, up to the one that must be 1, leave
// m as it looks: a prime has no roots of 1 but 1 and -1.
func (m prime) passes(base uint64) bool {
	minusOne := uint64(m) - 1
	twos := bits.TrailingZeros64(minusOne)
	a := m.power(base, minusOne>>twos)
	if a == 1 {
		return true
	}
	for range twos {
		if a == minusOne {
			return true
		}
		a = m.times(a, a)
	}
	return false
}

// of gives a's residue.
func (m prime) of(a api.Int) uint64 {
	r, _ := limbs.Mod(a, int64(m))
	return uint64(r)
}

// nearest gives the number of a residue that is nearest to 0.
func (m prime) nearest(r uint64) int64 {
	if r > uint64(m)/2 {
		return int64(r) - int64(m)
	}
	return int64(r)
}

func (m prime) minus(a, b uint64) uint64 { return (a + uint64(m) - b) % uint64(m) }

func (m prime) times(a, b uint64) uint64 { return a * b % uint64(m) }

func (m prime) power(a, n uint64) uint64 {
	z := uint64(1)
	for ; n > 0; n /= 2 {
		if n%2 == 1 {
			z = m.times(z, a)
		}
		a = m.times(a, a)
	}
	return z
}

// inverse gives 1 over a, which is not 0 (Fermat's little theorem).
func (m prime) inverse(a uint64) uint64 { return m.power(a, uint64(m)-2) }

// residues gives those of p's entries, without the last that are 0.
func (m prime) residues(p api.Poly) []uint64 {
	out := make([]uint64, len(p))
	for i, c := range p {
		out[i] = m.of(c)
	}
	return trimResidues(out)
}

func trimResidues(a []uint64) []uint64 {
	n := len(a)
	for n > 0 && a[n-1] == 0 {
		n--
	}
	return a[:n]
}

func (m prime) scaled(a []uint64, by uint64) []uint64 {
	out := make([]uint64, len(a))
	for i, c := range a {
		out[i] = m.times(c, by)
	}
	return out
}

// divisor gives the greatest common divisor, with the leading entry 1; neither
// of both is zero, and their memory is used up.
func (m prime) divisor(a, b []uint64) []uint64 {
	for len(b) > 0 {
		b = m.scaled(b, m.inverse(b[len(b)-1]))
		a, b = b, m.rest(a, b)
	}
	return a
}

// rest turns a into what b leaves of it; b's leading entry is 1.
func (m prime) rest(a, b []uint64) []uint64 {
	n := len(b) - 1
	for k := len(a) - 1; k >= n; k-- {
		// Adding the opposite needs no borrow.
		by := m.minus(0, a[k])
		if by == 0 {
			continue
		}
		row := a[k-n : k]
		for j := range row {
			row[j] = (row[j] + by*b[j]) % uint64(m)
		}
	}
	return trimResidues(a[:min(n, len(a))])
}
