package euclid

import (
	"slices"

	"ashlar/api"
	"ashlar/ore"
)

// letter is all that Euclid's steps know of an algebra: how its power letter goes
// past a polynomial.
type letter struct{ sigma, delta func(p api.Poly) api.Poly }

func letterOf(r *ore.Rule) letter { return letter{sigma: r.Sigma, delta: r.Delta} }

// times gives the letter times a.
func (x letter) times(a api.Op) api.Op {
	raised := append(api.Op{nil}, ore.Each(a, x.sigma)...)
	return ore.Add(raised, ore.Each(a, x.delta))
}

// product gives a b. The rule's own product refuses by its own estimate, which
// may be above MaxBits for what a call here must answer.
func (x letter) product(a, b api.Op) api.Op {
	var out api.Op
	for i, p := range a {
		if i > 0 {
			b = x.times(b)
		}
		out = ore.Add(out, ore.Scale(p, b))
	}
	return out
}

// divide gives c, q and s of Divide; b is not zero.
func (x letter) divide(a, b api.Op) (api.Poly, api.Op, api.Op) {
	left := x.step(start(a, b))
	return left.s[0], ore.Sub(nil, left.t), left.op
}

// divisor gives a row whose operator is a greatest common right divisor of a and
// b, not both zero, but for a polynomial to its left.
func (x letter) divisor(a, b api.Op) row {
	high, low := x.descend(a, b)
	if isZero(low.op) {
		return high
	}
	return low
}

// zeroRow gives the row of zero at the end of the steps: its s a, which is -t b,
// is a least common left multiple. Neither a nor b is zero.
func (x letter) zeroRow(a, b api.Op) row {
	high, low := x.descend(a, b)
	if isZero(low.op) {
		return low
	}
	return x.step(high, low)
}

// descend goes down to the first row whose operator is zero or of order 0, and
// gives it behind the row ahead of it. One of order 0 divides all: so it is a
// greatest common divisor, and the step to zero, often the longest, is spared.
func (x letter) descend(a, b api.Op) (row, row) {
	high, low := start(a, b)
	for ore.Order(low.op) > 0 {
		high, low = low, x.step(high, low)
	}
	return high, low
}

// step is Euclid's: it gives what low, whose operator is not zero, leaves of
// high. Were its cofactors not divided by what they share, each step would about
// double their sizes.
func (x letter) step(high, low row) row { return x.rest(high, low).primitive() }

// rest gives what low, whose operator is not zero, leaves of high: a polynomial
// times high, less some operator times low.
func (x letter) rest(high, low row) row {
	raised := []row{low}
	for i := range ore.Order(high.op) - ore.Order(low.op) {
		raised = append(raised, raised[i].each(x.times))
	}
	for _, by := range slices.Backward(raised) {
		if ore.Order(high.op) == ore.Order(by.op) {
			high = high.without(by)
		}
	}
	return high
}
