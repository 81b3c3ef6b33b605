package linalg

import (
	"slices"

	"ashlar/api"
	"ashlar/limbs"
	"ashlar/packed"
	"ashlar/upoly"
)

// nullSpace gives the vectors, the rows and the columns of Null.
func nullSpace(m [][]api.Poly) ([][]api.Poly, []int, []int) {
	e := newElimination(m)
	var vectors [][]api.Poly
	for j := range m[0] {
		if e.take(j) {
			continue
		}
		v := make([]api.Poly, len(m[0]))
		v[j] = packed.Poly(e.minor, e.width)
		for i, a := range e.combination(j) {
			v[e.columns[i]] = packed.Poly(a, e.width)
		}
		vectors = append(vectors, primitive(v, j))
	}
	rows := e.indexes()
	slices.Sort(rows)
	return vectors, rows, e.columns
}

// combination tells how many times each taken column, together with the minor
// times column j, makes zero. By Cramer's rule these are minors too: so they have
// room, and the divisions go.
func (e *elimination) combination(j int) []api.Int {
	out := make([]api.Int, len(e.taken))
	for i, r := range slices.Backward(e.taken) {
		sum := limbs.Mul(e.minor, r.entries[j])
		for k := i + 1; k < len(out); k++ {
			sum = limbs.Add(sum, limbs.Mul(out[k], r.entries[e.columns[k]]))
		}
		out[i] = limbs.Neg(exact(sum, r.entries[e.columns[i]]))
	}
	return out
}

// primitive gives v over the common divisor of its entries, with Lead of entry j,
// which is not zero, above 0.
func primitive(v []api.Poly, j int) []api.Poly {
	var divisor api.Poly
	for _, p := range v {
		divisor = upoly.Gcd(divisor, p)
	}
	if limbs.Sign(upoly.Lead(v[j])) < 0 {
		divisor = upoly.Scale(divisor, limbs.Of(-1))
	}
	out := make([]api.Poly, len(v))
	for i, p := range v {
		out[i], _ = upoly.Exact(p, divisor)
	}
	return out
}
