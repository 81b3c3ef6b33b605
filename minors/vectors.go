package minors

import (
	"slices"

	"ashlar/api"
	"ashlar/limbs"
	"ashlar/packed"
)

// vector gives a vector of the null space: its entry j is the minor, others that
// are not zero stand in the taken columns.
func (e *elimination) vector(j int) []api.Poly {
	v := make([]api.Poly, e.across)
	v[j] = packed.Poly(e.minor, e.width)
	for i, a := range e.combination(j) {
		v[e.columns[i]] = packed.Poly(a, e.width)
	}
	return v
}

// combination tells how many times each taken column, together with the minor
// times column j, makes zero. By Cramer's rule these are minors too: so they have
// room, and the divisions go.
func (e *elimination) combination(j int) []api.Int {
	out := make([]api.Int, len(e.taken))
	for i, r := range slices.Backward(e.taken) {
		sum := limbs.Mul(e.minor, r.entries[j])
		for k := i + 1; k < len(out); k++ {
			sum = limbs.Add(sum, limbs.Mul(out[k], r.entries[e.columns[k]]))
		}
		out[i] = limbs.Neg(exact(sum, r.entries[e.columns[i]]))
	}
	return out
}
