package upoly

import (
	"slices"

	"ashlar/api"
	"ashlar/limbs"
)

// The functions that are not exported take polynomials as read gives them,
// unless their remark says otherwise, and only read them.

// read gives the normal form of p in a list of its own, the limbs in p's own
// memory: who only reads them is spared a copy.
func read(p api.Poly) api.Poly { return each(trim(p), bare) }

// trim gives p without its last entries that are 0, in p's own memory.
func trim(p api.Poly) api.Poly {
	n := len(p)
	for n > 0 && limbs.Sign(p[n-1]) == 0 {
		n--
	}
	return slices.Clip(p[:n])
}

// bare gives the normal form of a in a's own memory.
func bare(a api.Int) api.Int {
	n := (limbs.Bits(a) + 31) / 32
	return api.Int{Neg: a.Neg && n > 0, L: a.L[:n]}
}

// own gives the normal form of a in memory of its own.
func own(a api.Int) api.Int { return limbs.Add(a, api.Int{}) }

// entry gives the i-th entry; p may have less.
func entry(p api.Poly, i int) api.Int {
	if i < len(p) {
		return p[i]
	}
	return api.Int{}
}

// each gives the list of what f makes of the entries; p may be any list.
func each(p api.Poly, f func(a api.Int) api.Int) api.Poly {
	out := make(api.Poly, len(p))
	for i, c := range p {
		out[i] = f(c)
	}
	return out
}

func isZero(a api.Int) bool { return limbs.Sign(a) == 0 }
