// Package minors goes through matrices of polynomials without fractions: all that
// it makes are minors, in the end too. It refuses nothing: linalg does, ahead of it.
package minors

import (
	"slices"

	"ashlar/api"
	"ashlar/limbs"
	"ashlar/packed"
	"ashlar/upoly"
)

// Matrices are lists of rows, one or more, of one length, 1 or more.

// Determinant gives that of a matrix with as many rows as columns.
func Determinant(m [][]api.Poly) api.Poly {
	e := newElimination(m)
	for j := range m[0] {
		if !e.take(j) {
			return nil
		}
	}
	d := e.minor
	if isOdd(e.indexes()) {
		d = limbs.Neg(d)
	}
	return packed.Poly(d, e.width)
}

// Null gives what linalg's Null promises: vectors, rows and columns.
func Null(m [][]api.Poly) ([][]api.Poly, []int, []int) {
	e := newElimination(m)
	var vectors [][]api.Poly
	for j := range m[0] {
		if !e.take(j) {
			vectors = append(vectors, primitive(e.vector(j), j))
		}
	}
	rows := e.indexes()
	slices.Sort(rows)
	return vectors, rows, e.columns
}

// First gives the vector that tells how the first column that is a combination of
// those to its left is one, as Null's first vector does, but not primitive; none,
// if no column is.
func First(m [][]api.Poly) []api.Poly {
	e := newElimination(m)
	for j := range m[0] {
		if !e.take(j) {
			return e.vector(j)
		}
	}
	return nil
}

// primitive gives v over the common divisor of its entries, with Lead of entry j,
// which is not zero, above 0.
func primitive(v []api.Poly, j int) []api.Poly {
	var divisor api.Poly
	for _, p := range v {
		divisor = upoly.Gcd(divisor, p)
	}
	if limbs.Sign(upoly.Lead(v[j])) < 0 {
		divisor = upoly.Scale(divisor, limbs.Of(-1))
	}
	out := make([]api.Poly, len(v))
	for i, p := range v {
		out[i], _ = upoly.Exact(p, divisor)
	}
	return out
}
