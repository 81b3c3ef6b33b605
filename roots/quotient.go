package roots

import (
	"ashlar/api"
	"ashlar/limbs"
)

// Polynomials are here in normal form and, but for multiply, not zero.

// multiply gives p times X - x.
func multiply(p api.Poly, x api.Int) api.Poly {
	if len(p) == 0 {
		return nil
	}
	out := make(api.Poly, len(p)+1)
	var below api.Int
	for i, c := range p {
		out[i] = limbs.Sub(below, limbs.Mul(x, c))
		below = c
	}
	out[len(p)] = below
	return out
}

// divide gives p over X - x, maybe in p's memory, and whether that goes. It goes
// from the lowest entry up: so no number on the way is greater than p's entries,
// whatever x is, and what is no root is seen early.
func divide(p api.Poly, x api.Int) (api.Poly, bool) {
	last := len(p) - 1
	if limbs.Sign(x) == 0 {
		return p[1:], limbs.Sign(p[0]) == 0
	}
	q := make(api.Poly, last)
	var above api.Int
	for i, c := range p[:last] {
		entry, r, _ := limbs.Quo(limbs.Sub(above, c), x)
		if limbs.Sign(r) != 0 {
			return nil, false
		}
		q[i], above = entry, entry
	}
	return q, limbs.Cmp(above, p[last]) == 0
}

// divideOut gives p, divided by X - x as often as it goes, maybe in p's memory,
// and tells how often that is.
func divideOut(p api.Poly, x api.Int) (api.Poly, int) {
	for k := 0; ; k++ {
		q, ok := divide(p, x)
		if !ok {
			return p, k
		}
		p = q
	}
}

// withOneZero gives p with 0 as a root at most once, in p's memory.
func withOneZero(p api.Poly) api.Poly {
	for len(p) > 1 && limbs.Sign(p[0]) == 0 && limbs.Sign(p[1]) == 0 {
		p = p[1:]
	}
	return p
}
