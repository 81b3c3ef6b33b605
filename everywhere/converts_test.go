package everywhere

import (
	"math"
	"testing"

	"ashlar/api"
	"ashlar/convert"
	"ashlar/seq"
)

func TestConvert(t *testing.T) {
	indices := []int{math.MinInt, -1, 0, 1, 2, 5, 9, 4096, 4097, math.MaxInt}
	given := append(sequences(), pairs(relations(), windows()[:4])...)
	toDiff := func(a api.Op, win []api.Rat) (api.Op, api.Errno) {
		s, _ := seq.Define(a, win)
		return convert.ToDiff(s)
	}
	// What is told of a sequence leaves it as it is.
	left := func(a api.Op, win []api.Rat) (told, api.Errno) {
		s, e := seq.Define(a, win)
		convert.ToDiff(s)
		convert.Coeff(a, s, 2)
		return tellMade(s, e)
	}
	solve := func(a api.Op, win []api.Rat) (told, api.Errno) { return tellMade(convert.Solve(a, win)) }
	coeff := func(a api.Op, win []api.Rat, b api.Op, n int) (api.Rat, api.Errno) {
		s, _ := seq.Define(a, win)
		return convert.Coeff(b, s, n)
	}
	ofNone := func(b api.Op, n int) (api.Rat, api.Errno) { return convert.Coeff(b, nil, n) }
	none := func() (api.Op, api.Errno) { return convert.ToDiff(nil) }
	for _, c := range []call{
		{"convert.ToDiff", toDiff, given},
		{"convert.ToDiff of none", none, [][]any{{}, {}}},
		{"convert.ToShift", convert.ToShift, ones(append(ops(), relations()...))},
		{"convert.Solve", solve, pairs(append(ops(), relations()...), windows())},
		{"convert.Coeff", coeff, with(with(sequences(), relations()), indices)},
		{"convert.Coeff of great operators", coeff, with(with(sequences()[:2], ops()), indices)},
		{"convert.Coeff of none", ofNone, with(ones(relations()), indices)},
		{"convert, what it leaves", left, given},
	} {
		hold(t, c)
	}
}
