package upoly

import (
	"math"
	"math/bits"

	"ashlar/api"
	"ashlar/limbs"
	"ashlar/packed"
)

// Mul multiplies.
func Mul(p, q api.Poly) api.Poly { return product(read(p), read(q)) }

func product(p, q api.Poly) api.Poly {
	if len(p) == 0 || len(q) == 0 {
		return nil
	}
	width := digitWidth(p, q)
	if rowsCost(p, q) <= packedCost(len(p), len(q), width) {
		return productByRows(p, q)
	}
	return packedProduct(p, q, width)
}

// digitWidth tells in how many limbs each entry of the product of p and q has
// room, and one bit more.
func digitWidth(p, q api.Poly) int {
	terms := uint(min(len(p), len(q)))
	return (Bits(p)+Bits(q)+bits.Len(terms))/32 + 1
}

// Costs are counted in products of two limbs. Asking for a product and a sum of
// numbers, with the memory for them, takes the time of askingCost of these;
// halvesFrom is about the length from which limbs makes a product by halves.
const (
	askingCost = 80
	halvesFrom = 80
)

func rowsCost(p, q api.Poly) int {
	m, k := weigh(p)
	n, l := weigh(q)
	return k*l + askingCost*m*n
}

// weigh tells how many entries are not 0, and how many limbs they have.
func weigh(p api.Poly) (int, int) {
	entries, all := 0, 0
	for _, c := range p {
		all += len(c.L)
		if !isZero(c) {
			entries++
		}
	}
	return entries, all
}

// packedCost tells what packing, one product and unpacking cost, for m and n
// entries. Products of long numbers are made by halves.
func packedCost(m, n, width int) int {
	if max(m, n) > math.MaxInt32/width {
		return math.MaxInt
	}
	cost := width * m * width * n
	for k := width * min(m, n); k > halvesFrom; k /= 2 {
		cost -= cost / 4
	}
	return cost + 2*askingCost*(m+n)
}

func packedProduct(p, q api.Poly, width int) api.Poly {
	return packed.Poly(limbs.Mul(packed.Of(p, width), packed.Of(q, width)), width)
}

func productByRows(p, q api.Poly) api.Poly {
	out := make(api.Poly, len(p)+len(q)-1)
	for i, a := range p {
		if isZero(a) {
			continue
		}
		for j, b := range q {
			out[i+j] = limbs.Add(out[i+j], limbs.Mul(a, b))
		}
	}
	return out
}
