package minors

import (
	"container/heap"
	"slices"

	"ashlar/api"
	"ashlar/limbs"
	"ashlar/packed"
	"ashlar/upoly"
)

// elimination goes through a matrix without fractions (Bareiss), column by column
// from the left. It reckons with packed polynomials: whatever it keeps is a minor
// of the matrix, so a width in which minors have room is known ahead.
type elimination struct {
	width   int
	across  int // how many columns there are
	left    rows
	taken   []*row  // in the order in which they were taken
	columns []int   // for which these were taken
	minor   api.Int // that of the taken rows and columns, in the order of both; 1 of none
}

func newElimination(m [][]api.Poly) *elimination {
	m = normal(m)
	e := &elimination{width: minorWidth(m), across: len(m[0]), minor: limbs.Of(1)}
	for i, polys := range m {
		r := &row{index: i}
		for _, p := range polys {
			a := packed.Of(p, e.width)
			r.entries = append(r.entries, a)
			r.bits = max(r.bits, limbs.Bits(a))
		}
		e.left = append(e.left, r)
	}
	heap.Init(&e.left)
	return e
}

// normal gives m with its entries in normal form.
func normal(m [][]api.Poly) [][]api.Poly {
	out := make([][]api.Poly, len(m))
	for i, polys := range m {
		for _, p := range polys {
			out[i] = append(out[i], upoly.Norm(p))
		}
	}
	return out
}

// minorWidth tells in how many limbs the entries of all minors of m have room,
// and one bit more. Without signs, the sum of a minor's entries is at most the
// product of the sums of its rows.
func minorWidth(m [][]api.Poly) int {
	var sizes []int
	for _, polys := range m {
		sizes = append(sizes, limbs.Bits(sumOfSizes(polys)))
	}
	slices.Sort(sizes)
	most := min(len(m), len(m[0]))
	bits := 0
	for _, n := range sizes[len(sizes)-most:] {
		bits += n
	}
	return bits/32 + 1
}

// sumOfSizes adds up all entries of polynomials, without their signs.
func sumOfSizes(polys []api.Poly) api.Int {
	var sum api.Int
	for _, p := range polys {
		for _, c := range p {
			sum = limbs.Add(sum, api.Int{L: c.L})
		}
	}
	return sum
}

// take takes a row for column j, the next one, and tells whether there is one: if
// not, column j is a combination of those that have rows.
func (e *elimination) take(j int) bool {
	next := e.left.take(j)
	if next == nil {
		return false
	}
	for _, r := range e.left {
		r.reduce(next, j, e.minor)
	}
	heap.Init(&e.left)
	e.taken = append(e.taken, next)
	e.columns = append(e.columns, j)
	e.minor = next.entries[j]
	return true
}

// indexes gives those of the taken rows, in the order in which they were taken.
func (e *elimination) indexes() []int {
	var out []int
	for _, r := range e.taken {
		out = append(out, r.index)
	}
	return out
}

// isOdd tells whether an odd number of exchanges brings the numbers into order.
func isOdd(ns []int) bool {
	odd := false
	for i, n := range ns {
		for _, ahead := range ns[:i] {
			odd = odd != (ahead > n)
		}
	}
	return odd
}
