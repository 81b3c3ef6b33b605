package convert

import (
	"slices"

	"ashlar/api"
	"ashlar/limbs"
	"ashlar/roots"
	"ashlar/upoly"
)

// The falling power j of y is y (y - 1) .. (y - j + 1). D^j takes x^m to that of m,
// times x^(m - j): so x^j D^j is the falling power j of x D.

// falling gives f by falling powers: their coefficients, that of the power 0 first.
func falling(f api.Poly) []api.Int {
	var out []api.Int
	for v := int64(0); upoly.Deg(f) >= 0; v++ {
		q, rest, _ := upoly.Pseudo(f, roots.With(upoly.Of(1), limbs.Of(v)))
		out, f = append(out, upoly.Lead(rest)), q
	}
	return out
}

// fromFalling gives the polynomial of coefficients of falling powers.
func fromFalling(cs []api.Int) api.Poly {
	var out api.Poly
	for j, c := range slices.Backward(cs) {
		out = upoly.Add(roots.With(out, limbs.Of(int64(j))), api.Poly{c})
	}
	return out
}

// fallingAt gives the sum of coefficients times falling powers of m, powers rising.
func fallingAt(parts []part, m int) api.Int {
	var out api.Int
	for i, one := range slices.Backward(parts) {
		next := 0
		if i > 0 {
			next = parts[i-1].power
		}
		out = limbs.Mul(limbs.Add(out, one.c), run(m-one.power+1, m-next))
	}
	return out
}

// run gives the product of the numbers from one to another, of none 1.
func run(from, to int) api.Int {
	switch {
	case from > to:
		return limbs.Of(1)
	case from == to:
		return limbs.Of(int64(from))
	}
	half := from + (to-from)/2
	return limbs.Mul(run(from, half), run(half+1, to))
}
