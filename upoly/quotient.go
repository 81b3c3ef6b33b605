package upoly

import (
	"math/bits"
	"slices"

	"ashlar/api"
	"ashlar/limbs"
)

// Content gives the content.
func Content(p api.Poly) api.Int {
	var g api.Int
	for _, c := range p {
		g = limbs.Gcd(g, c)
		// The content can only be 1 from here on.
		if limbs.Bits(g) == 1 {
			break
		}
	}
	return g
}

// Prim gives the primitive part.
func Prim(p api.Poly) api.Poly {
	_, prim := parts(read(p))
	return prim
}

// parts gives the content and the primitive part.
func parts(p api.Poly) (api.Int, api.Poly) {
	content := Content(p)
	if len(p) == 0 {
		return content, nil
	}
	d := content
	if p[len(p)-1].Neg {
		d = limbs.Neg(d)
	}
	return content, each(p, func(c api.Int) api.Int {
		q, _, _ := limbs.Quo(c, d)
		return q
	})
}

// Pseudo divides without fractions.
func Pseudo(a, b api.Poly) (api.Poly, api.Poly, api.Errno) {
	a, b = read(a), read(b)
	if len(b) == 0 {
		return nil, nil, api.ErrZero
	}
	if len(a) < len(b) {
		return nil, Norm(a), api.OK
	}
	q, r := pseudoQuotient(a, b)
	return q, r, api.OK
}

// pseudoQuotient divides a by b, which is not zero nor of a greater degree.
func pseudoQuotient(a, b api.Poly) (api.Poly, api.Poly) {
	n := len(b) - 1
	lead := b[n]
	rest := slices.Clone(a)
	power := limbs.Of(1)
	for k := len(a) - len(b); k >= 0; k-- {
		// A step multiplies all that is left by lead; an entry that no step has
		// reached yet makes up for it when its turn comes.
		rest[k] = limbs.Mul(rest[k], power)
		for j, c := range b[:n] {
			rest[k+j] = limbs.Sub(limbs.Mul(lead, rest[k+j]), limbs.Mul(rest[k+n], c))
		}
		power = limbs.Mul(power, lead)
	}
	// Each entry of the quotient lacks the steps behind its own.
	q := slices.Clone(rest[n:])
	power = limbs.Of(1)
	for k := range q {
		q[k] = limbs.Mul(q[k], power)
		power = limbs.Mul(power, lead)
	}
	return q, trim(rest[:n])
}

// Exact divides, if it goes.
func Exact(a, b api.Poly) (api.Poly, bool) {
	a, b = read(a), read(b)
	if len(b) == 0 || 0 < len(a) && len(a) < len(b) {
		return nil, false
	}
	return exactQuotient(a, b)
}

// exactQuotient divides a by b, which is not zero; a is zero, or not of a lesser
// degree than b.
func exactQuotient(a, b api.Poly) (api.Poly, bool) {
	if len(a) == 0 {
		return nil, true
	}
	n := len(b) - 1
	rest := slices.Clone(a)
	q := make(api.Poly, len(a)-n)
	most := factorBits(a, len(q))
	for k := len(q) - 1; k >= 0; k-- {
		c, left, _ := limbs.Quo(rest[k+n], b[n])
		if !isZero(left) || limbs.Bits(c) > most {
			return nil, false
		}
		q[k] = c
		takeTimes(rest[k:k+n], b, c)
	}
	if len(trim(rest[:n])) > 0 {
		return nil, false
	}
	return q, true
}

// factorBits tells a number of bits above which no factor of a with n entries
// has an entry: Mignotte's bound, 2^(n - 1) times the root of the sum of the
// squares of a's entries. A division that goes beyond it need not be ended.
func factorBits(a api.Poly, n int) int {
	return n + Bits(a) + bits.Len(uint(len(a)))
}

// takeTimes takes c times b from rest, as far as rest goes.
func takeTimes(rest, b api.Poly, c api.Int) {
	if isZero(c) {
		return
	}
	for j := range rest {
		rest[j] = limbs.Sub(rest[j], limbs.Mul(c, b[j]))
	}
}
