package convert

import (
	"iter"

	"ashlar/api"
	"ashlar/gauge"
	"ashlar/seq"
	"ashlar/upoly"
	"ashlar/walks"
)

// part is a coefficient of an operator, with the power of D to its right.
type part struct {
	power int
	c     api.Int
}

// lastUsed gives the greatest index of a value that counts in the coefficient of
// x^n, -1 if none does. Of those above MaxIndex it tells any.
func lastUsed(a api.Op, n int) int {
	last := -1
	for j, p := range a {
		// A greater k has a lower index.
		if k := least(upTo(p, n)); k >= 0 {
			// An n may be any: the sum must not wrap.
			last = max(last, min(n-k, api.MaxIndex+1)+j)
		}
	}
	return last
}

// upTo gives p without the powers above n.
func upTo(p api.Poly, n int) api.Poly { return p[:min(n, len(p)-1)+1] }

// least gives the least power with a coefficient that is not 0, -1 of zero.
func least(p api.Poly) int {
	for k := range upoly.Terms(p) {
		return k
	}
	return -1
}

// refusal tells the error that unroll.Term tells of the value at n, from 0 on, but
// spares the value.
func refusal(s *seq.Seq, n int) api.Errno {
	switch {
	case n > api.MaxIndex:
		return api.ErrIndex
	case gauge.Term(s.Op(), s.Window(), n) > api.MaxBits:
		return api.ErrBig
	}
	return api.OK
}

// partsOf gives, by the index of the value with which they go, the coefficients
// that count in that of x^n, powers of D rising.
func partsOf(a api.Op, n, last int) [][]part {
	out := make([][]part, last+1)
	for j, p := range a {
		for k, c := range upoly.Terms(upTo(p, n)) {
			m := n - k + j
			out[m] = append(out[m], part{power: j, c: c})
		}
	}
	return out
}

// addParts adds values, each times what its parts are at its index.
func addParts(sum *walks.Sum, parts [][]part, values iter.Seq2[int, api.Rat]) {
	for m, v := range values {
		if m < len(parts) && len(parts[m]) > 0 {
			sum.Add(api.Poly{fallingAt(parts[m], m)}, v)
		}
	}
}
