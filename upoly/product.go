package upoly

import (
	"math"
	"math/bits"

	"ashlar/api"
	"ashlar/limbs"
)

// Mul multiplies.
func Mul(p, q api.Poly) api.Poly { return product(read(p), read(q)) }

func product(p, q api.Poly) api.Poly {
	if len(p) == 0 || len(q) == 0 {
		return nil
	}
	width := digitWidth(p, q)
	if rowsCost(p, q) <= packedCost(len(p), len(q), width) {
		return productByRows(p, q)
	}
	packed := limbs.Mul(pack(p, width), pack(q, width))
	return unpack(packed, width, len(p)+len(q)-1)
}

// digitWidth tells in how many limbs each entry of the product of p and q has
// room, and one bit more.
func digitWidth(p, q api.Poly) int {
	terms := uint(min(len(p), len(q)))
	return (Bits(p)+Bits(q)+bits.Len(terms))/32 + 1
}

// Costs are counted in products of two limbs. Asking for a product and a sum of
// numbers, with the memory for them, takes the time of askingCost of these;
// halvesFrom is about the length from which limbs makes a product by halves.
const (
	askingCost = 80
	halvesFrom = 80
)

func rowsCost(p, q api.Poly) int {
	m, k := weigh(p)
	n, l := weigh(q)
	return k*l + askingCost*m*n
}

// weigh tells how many entries are not 0, and how many limbs they have.
func weigh(p api.Poly) (int, int) {
	entries, all := 0, 0
	for _, c := range p {
		all += len(c.L)
		if !isZero(c) {
			entries++
		}
	}
	return entries, all
}

// packedCost tells what packing, one product and unpacking cost, for m and n
// entries. Products of long numbers are made by halves.
func packedCost(m, n, width int) int {
	if max(m, n) > math.MaxInt32/width {
		return math.MaxInt
	}
	cost := width * m * width * n
	for k := width * min(m, n); k > halvesFrom; k /= 2 {
		cost -= cost / 4
	}
	return cost + 2*askingCost*(m+n)
}

func productByRows(p, q api.Poly) api.Poly {
	out := make(api.Poly, len(p)+len(q)-1)
	for i, a := range p {
		if isZero(a) {
			continue
		}
		for j, b := range q {
			out[i+j] = limbs.Add(out[i+j], limbs.Mul(a, b))
		}
	}
	return out
}

// pack gives p at 2^(32 width): a product of such numbers is the product of the
// polynomials, packed (Kronecker's way), and limbs is quick at long numbers.
func pack(p api.Poly, width int) api.Int {
	above := make([]uint32, width*len(p))
	below := make([]uint32, width*len(p))
	for i, c := range p {
		into := above
		if c.Neg {
			into = below
		}
		copy(into[i*width:], c.L)
	}
	return limbs.Sub(api.Int{L: above}, api.Int{L: below})
}

// unpack gives the polynomial of n entries that pack made a of, if all of them
// are below 2^(32 width - 1), without their signs.
func unpack(a api.Int, width, n int) api.Poly {
	out := make(api.Poly, n)
	one := limbs.Of(1)
	base := api.Int{L: append(make([]uint32, width), 1)}
	var carry api.Int
	for i := range out {
		from := min(i*width, len(a.L))
		digit := api.Int{L: a.L[from:min(from+width, len(a.L))]}
		c := limbs.Add(digit, carry)
		carry = api.Int{}
		// An entry below 0 has taken 1 from the next.
		if limbs.Bits(c) >= 32*width {
			c, carry = limbs.Sub(c, base), one
		}
		if a.Neg {
			c = limbs.Neg(c)
		}
		out[i] = c
	}
	return out
}
