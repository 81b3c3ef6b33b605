package everywhere

import (
	"math"
	"testing"

	"ashlar/api"
	"ashlar/roots"
	"ashlar/upoly"
)

// polys are polynomials in normal form and in others.
func polys() []api.Poly {
	n := ints()
	dense := make(api.Poly, 30)
	for i := range dense {
		dense[i] = n[(5*i+1)%9]
	}
	return []api.Poly{
		nil, {}, {n[0]}, {n[3], n[1], n[2]},
		{n[4]}, {n[5], n[3]}, {n[7]}, {n[0], n[6]}, {n[6], n[5]}, {n[4], n[0], n[5], n[1]},
		{n[7], n[3], n[9], n[2]}, {n[11], n[8], n[13]}, {n[12], n[10]}, dense,
	}
}

func TestUpoly(t *testing.T) {
	one, two := ones(polys()), pairs(polys(), polys())
	// reflect wants the numbers of a variadic call one by one.
	of := func(ns []int64) api.Poly { return upoly.Of(ns...) }
	for _, c := range []call{
		{"upoly.Of", of, ones([][]int64{nil, {}, {0}, {0, 0}, wholes(), {3, 0}})},
		{"upoly.Norm", upoly.Norm, one},
		{"upoly.Deg", upoly.Deg, one},
		{"upoly.Bits", upoly.Bits, one},
		{"upoly.Lead", upoly.Lead, one},
		{"upoly.Eq", upoly.Eq, two},
		{"upoly.Add", upoly.Add, two},
		{"upoly.Sub", upoly.Sub, two},
		{"upoly.Mul", upoly.Mul, two},
		{"upoly.Scale", upoly.Scale, pairs(polys(), ints())},
		{"upoly.Eval", upoly.Eval, pairs(polys(), ints())},
		{"upoly.EvalRat", upoly.EvalRat, pairs(polys(), rats())},
		{"upoly.Deriv", upoly.Deriv, one},
		{"upoly.Shift", upoly.Shift, pairs(polys(), ints())},
		{"upoly.Stretch", upoly.Stretch, stretches()},
		{"upoly.Content", upoly.Content, one},
		{"upoly.Prim", upoly.Prim, one},
		{"upoly.Pseudo", upoly.Pseudo, two},
		{"upoly.Exact", upoly.Exact, two},
		{"upoly.Gcd", upoly.Gcd, two},
		{"upoly.Terms", terms, one},
	} {
		hold(t, c)
	}
}

func stretches() [][]any {
	var out [][]any
	for _, p := range polys() {
		for _, k := range wholes() {
			for _, j := range []int64{math.MinInt64, -1 << 31, 1 - 1<<31, -3, 0, 1<<31 - 1, 1 << 31} {
				out = append(out, []any{p, k, j})
			}
		}
	}
	return out
}

// terms goes over them twice.
func terms(p api.Poly) ([]int, []api.Int) {
	var powers []int
	var entries []api.Int
	each := upoly.Terms(p)
	for range 2 {
		for i, c := range each {
			powers, entries = append(powers, i), append(entries, c)
		}
	}
	return powers, entries
}

// rooted are polynomials with integer roots, some of them many times, and others.
func rooted() []api.Poly {
	out := polys()
	for i, p := range polys() {
		xs := ints()[i:]
		out = append(out, roots.With(p, xs[0], xs[0]), roots.With(p, xs[:min(4, len(xs))]...))
	}
	return out
}

// intLists are lists of numbers, some of them twice.
func intLists() [][]api.Int {
	n := ints()
	return [][]api.Int{nil, {}, n[:1], n[3:4], n[4:5], {n[7], n[7]}, {n[8], n[5], n[8]}, n[2:11], n[10:]}
}

func TestRoots(t *testing.T) {
	one := ones(rooted())
	without := func(p api.Poly, xs []api.Int) (api.Poly, api.Errno) { return roots.Without(p, xs...) }
	with := func(p api.Poly, xs []api.Int) api.Poly { return roots.With(p, xs...) }
	for _, c := range []call{
		{"roots.All", roots.All, one},
		{"roots.Natural", roots.Natural, one},
		{"roots.Times", roots.Times, pairs(rooted(), ints())},
		{"roots.Without", without, pairs(rooted(), intLists())},
		{"roots.With", with, pairs(rooted(), intLists())},
	} {
		hold(t, c)
	}
}
