// Package packed: polynomials as single numbers, their values at a power of 2
// (Kronecker's way). Sums and products of such numbers, and quotients that go,
// are those of the polynomials, and limbs is quick at long numbers.
package packed

import (
	"ashlar/api"
	"ashlar/limbs"
)

// An entry has room in a width, if it is below 2^(32 width - 1), without its
// sign: so an entry below 0 is told from one above, and no polynomial but zero
// is packed into 0. The degree is a packed number's Bits over 32 width: so
// fewer Bits are never a greater degree.

// Of packs a polynomial in normal form; each entry has room in the width, which
// is 1 or more.
func Of(p api.Poly, width int) api.Int {
	above := make([]uint32, width*len(p))
	below := make([]uint32, width*len(p))
	for i, c := range p {
		into := above
		if c.Neg {
			into = below
		}
		copy(into[i*width:], c.L)
	}
	return limbs.Sub(api.Int{L: above}, api.Int{L: below})
}

// Poly gives the polynomial that is packed into a number in normal form, if all
// its entries have room in the width.
func Poly(a api.Int, width int) api.Poly {
	if limbs.Sign(a) == 0 {
		return nil
	}
	out := make(api.Poly, limbs.Bits(a)/(32*width)+1)
	one := limbs.Of(1)
	base := api.Int{L: append(make([]uint32, width), 1)}
	var carry api.Int
	for i := range out {
		from := min(i*width, len(a.L))
		digit := api.Int{L: a.L[from:min(from+width, len(a.L))]}
		c := limbs.Add(digit, carry)
		carry = api.Int{}
		// An entry below 0 has taken 1 from the next.
		if limbs.Bits(c) >= 32*width {
			c, carry = limbs.Sub(c, base), one
		}
		if a.Neg {
			c = limbs.Neg(c)
		}
		out[i] = c
	}
	return out
}
