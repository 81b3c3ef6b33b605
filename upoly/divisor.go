package upoly

import (
	"ashlar/api"
	"ashlar/limbs"
)

// Gcd gives the greatest common divisor.
func Gcd(p, q api.Poly) api.Poly {
	c, a := parts(read(p))
	d, b := parts(read(q))
	if len(a) < len(b) {
		a, b = b, a
	}
	g := a
	if len(b) > 0 {
		g = primitiveDivisor(a, b)
	}
	return Scale(g, limbs.Gcd(c, d))
}

// primitiveDivisor gives the greatest common divisor of two that are primitive,
// b's degree not above a's, maybe in their memory. It looks at common divisors
// modulo primes: their degree is never too low, and too great for few primes.
func primitiveDivisor(a, b api.Poly) api.Poly {
	lead := limbs.Gcd(a[len(a)-1], b[len(b)-1])
	var found *image
	for m := greatestPrime(); ; m = m.below() {
		scale := m.Of(lead)
		if scale == 0 {
			continue
		}
		d := m.divisor(m.residues(a), m.residues(b))
		if len(d) == 1 {
			return Of(1)
		}
		if found == nil || len(d) < len(found.entries) {
			// That b divides a is frequent, and told at once.
			if len(d) == len(b) && divides(b, a) {
				return b
			}
			found = newImage(len(d))
		}
		if len(d) > len(found.entries) || found.take(m, m.scaled(d, scale)) {
			continue
		}
		// What divides both and is of such a degree is the greatest.
		if g := Prim(found.entries); divides(g, a) && divides(g, b) {
			return g
		}
	}
}

// divides tells whether d, not of a greater degree than a, divides a.
func divides(d, a api.Poly) bool {
	_, ok := exactQuotient(a, d)
	return ok
}

// image is a polynomial modulo a product of primes, each entry as near to 0 as
// can be.
type image struct {
	entries api.Poly
	modulus api.Int
}

func newImage(n int) *image {
	return &image{entries: make(api.Poly, n), modulus: limbs.Of(1)}
}

// take brings the image to what it is modulo a further prime, and tells whether
// that changes it.
func (g *image) take(m prime, residues []uint64) bool {
	changed := false
	inverse := m.Inverse(m.Of(g.modulus))
	for i, r := range residues {
		lack := m.Times(m.Minus(r, m.Of(g.entries[i])), inverse)
		if lack > 0 {
			step := limbs.Mul(g.modulus, limbs.Of(m.nearest(lack)))
			g.entries[i] = limbs.Add(g.entries[i], step)
			changed = true
		}
	}
	g.modulus = limbs.Mul(g.modulus, limbs.Of(int64(m.Prime)))
	return changed
}
