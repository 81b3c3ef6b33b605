package everywhere

import (
	"testing"

	"ashlar/api"
	"ashlar/ratfun"
	"ashlar/upoly"
)

// funs are pairs of some of polys, some with a common divisor.
func funs() []api.Fun {
	out := []api.Fun{{}}
	some := polys()
	for i, num := range some {
		for j := i % 7; j < len(some); j += 7 {
			out = append(out, api.Fun{Num: num, Den: some[j]})
		}
		by := some[(i+3)%len(some)]
		out = append(out, api.Fun{Num: upoly.Mul(num, by), Den: upoly.Mul(some[i*5%11], by)})
	}
	return out
}

// funLists are lists of functions, some of them twice.
func funLists() [][]api.Fun {
	n := funs()
	out := [][]api.Fun{nil, {}, n[:1], {n[4], n[4]}, {n[0], n[7], n[0]}, n[10:16], n[20:32], n[35:]}
	for i, f := range n {
		out = append(out, []api.Fun{f}, []api.Fun{f, n[(i*7+2)%len(n)]})
	}
	return out
}

func TestRatfun(t *testing.T) {
	one, two := ones(funs()), pairs(funs(), funs())
	common := func(fs []api.Fun) (api.Poly, []api.Poly) { return ratfun.Common(fs...) }
	for _, c := range []call{
		{"ratfun.Of", ratfun.Of, pairs(polys(), polys())},
		{"ratfun.Norm", ratfun.Norm, one},
		{"ratfun.Eq", ratfun.Eq, two},
		{"ratfun.Add", ratfun.Add, two},
		{"ratfun.Sub", ratfun.Sub, two},
		{"ratfun.Mul", ratfun.Mul, two},
		{"ratfun.Quo", ratfun.Quo, two},
		{"ratfun.Eval", ratfun.Eval, pairs(funs(), ints())},
		{"ratfun.Shift", ratfun.Shift, pairs(funs(), ints())},
		{"ratfun.Common", common, ones(funLists())},
	} {
		hold(t, c)
	}
}
