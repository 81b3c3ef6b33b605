package upoly

import (
	"math"

	"ashlar/api"
	"ashlar/limbs"
)

// Shift gives p(x + a).
func Shift(p api.Poly, a api.Int) api.Poly {
	out, a := Norm(p), bare(a)
	if isZero(a) {
		return out
	}
	// Each round divides by x - a, by Horner's scheme, what the round before has
	// left of the quotient: the rest is the next entry.
	for i := range out {
		for j := len(out) - 2; j >= i; j-- {
			out[j] = limbs.Add(out[j], limbs.Mul(a, out[j+1]))
		}
	}
	return out
}

// Stretch gives k^d p((x - j) / k).
func Stretch(p api.Poly, k, j int64) (api.Poly, api.Errno) {
	if k < 1 || k > math.MaxInt32 || j < -math.MaxInt32 || j > math.MaxInt32 {
		return nil, api.ErrArg
	}
	return Shift(widen(read(p), limbs.Of(k)), limbs.Of(-j)), api.OK
}

// widen gives k^d p(x / k).
func widen(p api.Poly, k api.Int) api.Poly {
	out := make(api.Poly, len(p))
	power := limbs.Of(1)
	for i := len(p) - 1; i >= 0; i-- {
		out[i] = limbs.Mul(p[i], power)
		power = limbs.Mul(power, k)
	}
	return out
}
