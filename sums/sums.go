// Package sums adds many rationals at once.
package sums

import (
	"ashlar/api"
	"ashlar/limbs"
)

// Of gives the sum of rationals whose Dens are above 0, by halves: so long
// numbers meet long ones. It is not in lowest terms, and may share memory with
// what is handed in: what is made of it is worth one common divisor, or none.
func Of(terms []api.Rat) api.Rat {
	switch len(terms) {
	case 0:
		return api.Rat{Den: limbs.Of(1)}
	case 1:
		return terms[0]
	}
	half := len(terms) / 2
	return add(Of(terms[:half]), Of(terms[half:]))
}

func add(a, b api.Rat) api.Rat {
	if limbs.Cmp(a.Den, b.Den) == 0 {
		return api.Rat{Num: limbs.Add(a.Num, b.Num), Den: a.Den}
	}
	return api.Rat{
		Num: limbs.Add(limbs.Mul(a.Num, b.Den), limbs.Mul(b.Num, a.Den)),
		Den: limbs.Mul(a.Den, b.Den),
	}
}
