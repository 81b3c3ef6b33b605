// Package residue reckons modulo a prime.
package residue

import (
	"math/bits"

	"ashlar/api"
	"ashlar/limbs"
)

// Prime is a prime from 2 to api.MaxPrime: a product of two residues, and one
// more, fit into 64 bits. Residues are not below 0, and below it.
type Prime uint64

// IsPrime tells whether n is a prime from 2 to api.MaxPrime: there these four
// bases leave no doubt (Miller's test).
func IsPrime(n int64) bool {
	if n < 2 || n > api.MaxPrime {
		return false
	}
	m := Prime(n)
	for _, base := range [...]Prime{2, 3, 5, 7} {
		if m%base == 0 {
			return m == base
		}
		if !m.passes(uint64(base)) {
			return false
		}
	}
	return true
}

// passes tells whether the powers of a base, which an odd m does not divide, up
// to the one that must be 1, leave m as it looks: a prime has no roots of 1 but 1
// and -1.
func (m Prime) passes(base uint64) bool {
	minusOne := uint64(m) - 1
	twos := bits.TrailingZeros64(minusOne)
	a := m.Power(base, minusOne>>twos)
	if a == 1 {
		return true
	}
	for range twos {
		if a == minusOne {
			return true
		}
		a = m.Times(a, a)
	}
	return false
}

// Of gives a's residue.
func (m Prime) Of(a api.Int) uint64 {
	r, _ := limbs.Mod(a, int64(m))
	return uint64(r)
}

// Entries gives the residues of p's entries.
func (m Prime) Entries(p api.Poly) []uint64 {
	out := make([]uint64, len(p))
	for i, c := range p {
		out[i] = m.Of(c)
	}
	return out
}

// Eval gives the value at x of the polynomial with these entries.
func (m Prime) Eval(entries []uint64, x uint64) uint64 {
	z := uint64(0)
	for i := len(entries) - 1; i >= 0; i-- {
		z = (z*x + entries[i]) % uint64(m)
	}
	return z
}

// Minus gives a - b.
func (m Prime) Minus(a, b uint64) uint64 { return (a + uint64(m) - b) % uint64(m) }

// Times gives a b.
func (m Prime) Times(a, b uint64) uint64 { return a * b % uint64(m) }

// Power gives a^n.
func (m Prime) Power(a, n uint64) uint64 {
	z := uint64(1)
	for ; n > 0; n /= 2 {
		if n%2 == 1 {
			z = m.Times(z, a)
		}
		a = m.Times(a, a)
	}
	return z
}

// Inverse gives 1 over a, which is not 0 (Fermat's little theorem).
func (m Prime) Inverse(a uint64) uint64 { return m.Power(a, uint64(m)-2) }
