package everywhere

import (
	"math"
	"testing"

	"ashlar/api"
	"ashlar/seq"
	"ashlar/unroll"
	"ashlar/upoly"
)

// sequences are pairs of an operator and a window of which each defines one.
func sequences() [][]any {
	n := rats()
	return [][]any{
		{api.Op{upoly.Of(-1), upoly.Of(-1), upoly.Of(1)}, []api.Rat{n[0], n[30]}},
		{api.Op{upoly.Of(-1, -1), upoly.Of(1), nil}, []api.Rat{n[20]}},
		{api.Op{upoly.Of(1, 1), upoly.Of(-3, -2), upoly.Of(2, 1)}, []api.Rat{n[7], n[22]}},
		{api.Op{upoly.Of(1), upoly.Of(-2, 1)}, []api.Rat{{}, {}, {}, n[21]}},
		{api.Op{upoly.Of(0, -1, 1)}, []api.Rat{n[2], n[23]}}, {api.Op{upoly.Of(1), {}}, []api.Rat{}},
		{api.Op{upoly.Of(-3), nil, upoly.Of(0, 0, 7), {}}, []api.Rat{n[1], n[2], n[3]}},
	}
}

func TestUnroll(t *testing.T) {
	indices := []int{math.MinInt, -1, 0, 1, 2, 5, 9, 4096, 4097, math.MaxInt}
	term := func(a api.Op, win []api.Rat, n int) (api.Rat, api.Errno) {
		s, _ := seq.Define(a, win)
		return unroll.Term(s, n)
	}
	terms := func(a api.Op, win []api.Rat, n int) ([]api.Rat, api.Errno) {
		s, _ := seq.Define(a, win)
		return unroll.Terms(s, n)
	}
	all := func(a api.Op, win []api.Rat) (ks []int, vs []api.Rat) {
		s, _ := seq.Define(a, win)
		for k, v := range unroll.All(s) {
			if ks, vs = append(ks, k), append(vs, v); k == 12 {
				break
			}
		}
		return ks, vs
	}
	holds := func(a api.Op, win []api.Rat, b api.Op, n int) (bool, api.Errno) {
		s, _ := seq.Define(a, win)
		return unroll.Holds(s, b, n)
	}
	for i, args := range sequences() {
		if s, e := seq.Define(args[0].(api.Op), args[1].([]api.Rat)); s == nil {
			t.Errorf("the pair %d defines no sequence: %d", i, e)
		}
	}
	given := append(sequences(), pairs(relations(), windows()[:4])...)
	for _, c := range []call{
		{"unroll.Term", term, with(given, indices)},
		{"unroll.Terms", terms, with(sequences(), indices)},
		{"unroll.All", all, given},
		{"unroll.Holds", holds, with(with(sequences(), relations()), indices)},
		{"unroll.Term of none", func(n int) (api.Rat, api.Errno) { return unroll.Term(nil, n) }, ones(indices)},
		{"unroll.Terms of none", func(n int) ([]api.Rat, api.Errno) { return unroll.Terms(nil, n) }, ones(indices)},
		{"unroll.Holds of none", func(b api.Op, n int) (bool, api.Errno) { return unroll.Holds(nil, b, n) }, with(ones(relations()), indices)},
	} {
		hold(t, c)
	}
}
