package limbs

import "math/bits"

// splitFrom is the length from which halves are worth their sums.
const splitFrom = 80

func product(x, y []uint32) []uint32 {
	z := make([]uint32, len(x)+len(y))
	multiply(z, x, y)
	return z
}

// multiply lays x times y into z, which is zero and as long as both together.
func multiply(z, x, y []uint32) {
	if len(x) < len(y) {
		x, y = y, x
	}
	half := (len(x) + 1) / 2
	switch {
	case len(y) < splitFrom:
		multiplyRows(z, x, y)
	case len(y) <= half:
		multiplyPieces(z, x, y)
	default:
		multiplyHalves(z, x, y, half)
	}
}

func multiplyRows(z, x, y []uint32) {
	for i, v := range y {
		var carry uint64
		row := z[i : i+len(x)]
		for j, w := range x {
			t := uint64(v)*uint64(w) + uint64(row[j]) + carry
			row[j], carry = uint32(t), t>>32
		}
		z[i+len(x)] = uint32(carry)
	}
}

// multiplyPieces cuts x, so that halves suit both sides of each product.
func multiplyPieces(z, x, y []uint32) {
	for i := 0; i < len(x); i += len(y) {
		piece := x[i:min(i+len(y), len(x))]
		addTo(z[i:], product(piece, y))
	}
}

// multiplyHalves needs three products of halves in place of four (Karatsuba);
// both x and y are longer than half.
func multiplyHalves(z, x, y []uint32, half int) {
	low, high := z[:2*half], z[2*half:]
	multiply(low, x[:half], y[:half])
	multiply(high, x[half:], y[half:])
	middle := product(sum(x[:half], x[half:]), sum(y[:half], y[half:]))
	takeFrom(middle, low)
	takeFrom(middle, high)
	addTo(z[half:], trim(middle))
}

// power is x^n for n from 1 on. It takes n's bits from the highest on, so that
// no square is made that the answer does not hold.
func power(x []uint32, n int) []uint32 {
	z := clone(x)
	for i := bits.Len(uint(n)) - 2; i >= 0; i-- {
		z = trim(product(z, z))
		if n>>i&1 == 1 {
			z = trim(product(z, x))
		}
	}
	return z
}
