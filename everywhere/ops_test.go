package everywhere

import (
	"testing"

	"ashlar/api"
	"ashlar/ore"
)

// ops are operators in normal form and in others, some of them too great for a
// product.
func ops() []api.Op {
	some := polys()
	out := []api.Op{nil, {}, {nil}, {some[2], some[3], nil}, make(api.Op, 2000)}
	for k := range 12 {
		a := make(api.Op, 1+k%5)
		for i := range a {
			a[i] = some[(k*k+5*i+3)%(len(some)-1)]
		}
		out = append(out, a)
	}
	far := make(api.Op, 1500)
	far[1499] = some[5]
	return append(out, far, api.Op{some[13], nil, some[13]})
}

// someOps are fewer, for calls with many arguments.
func someOps() []api.Op {
	all := ops()
	return []api.Op{all[0], all[3], all[6], all[9], all[10], all[14], all[len(all)-2]}
}

// withRules puts each rule, as what New is asked for, ahead of the arguments; no
// rule comes of some.
func withRules(args [][]any) [][]any {
	n := ints()
	var out [][]any
	for i, a := range args {
		for j, q := range []api.Int{n[0], n[4], n[7], n[11]} {
			out = append(out, append([]any{[]int{1, 2, 3, 0}[(i+j)%4], q}, a...), append([]any{3, q}, a...))
		}
	}
	return out
}

// ruled makes a rule for each call.
func ruled[A, B, C any](ask func(r *ore.Rule, a A, b B) (C, api.Errno)) any {
	return func(algebra int, q api.Int, a A, b B) (C, api.Errno) {
		r, _ := ore.New(algebra, q)
		return ask(r, a, b)
	}
}

func TestRules(t *testing.T) {
	made := func(algebra int, q api.Int) (int, api.Int, api.Errno) {
		r, e := ore.New(algebra, q)
		return r.Algebra(), r.Q(), e
	}
	sigma := func(algebra int, q api.Int, p api.Poly) (api.Poly, api.Poly) {
		r, _ := ore.New(algebra, q)
		return r.Sigma(p), r.Delta(p)
	}
	for _, c := range []call{
		{"ore.New", made, withRules([][]any{{}, {}, {}, {}})},
		{"ore.Sigma and Delta", sigma, withRules(ones(polys()))},
		{"ore.Mul", ruled((*ore.Rule).Mul), withRules(pairs(someOps(), someOps()))},
		{"ore.Power", ruled((*ore.Rule).Power), withRules(pairs(ops(), []int{-1, 0, 1, 2, 5, 64, 65}))},
		{"ore.Apply", ruled((*ore.Rule).Apply), withRules(pairs(someOps(), polys()))},
	} {
		hold(t, c)
	}
}

func TestOps(t *testing.T) {
	one, two := ones(ops()), pairs(ops(), ops())
	same := func(a api.Op) api.Op { return ore.Each(a, func(p api.Poly) api.Poly { return p }) }
	none := func(a api.Op) api.Op { return ore.Each(a, nil) }
	for _, c := range []call{
		{"ore.Norm", ore.Norm, one},
		{"ore.Order", ore.Order, one},
		{"ore.Degree", ore.Degree, one},
		{"ore.Bits", ore.Bits, one},
		{"ore.Lead", ore.Lead, one},
		{"ore.Eq", ore.Eq, two},
		{"ore.Add", ore.Add, two},
		{"ore.Sub", ore.Sub, two},
		{"ore.Scale", ore.Scale, pairs(polys(), ops())},
		{"ore.Content", ore.Content, one},
		{"ore.Prim", ore.Prim, one},
		{"ore.Each", same, one},
		{"ore.Each of nil", none, one},
	} {
		hold(t, c)
	}
}
