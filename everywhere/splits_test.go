package everywhere

import (
	"math"
	"testing"

	"ashlar/api"
	"ashlar/seq"
	"ashlar/split"
)

// product is what Step and Range tell.
type product struct {
	Rows   [][]api.Int
	Number api.Int
}

func TestSplit(t *testing.T) {
	numbers := []int{math.MinInt, -1, 0, 1, 2, 3, 5, 30, 4096, 4097, math.MaxInt}
	term := func(a api.Op, win []api.Rat, n int) (api.Rat, api.Errno) {
		s, _ := seq.Define(a, win)
		return split.Term(s, n)
	}
	step := func(a api.Op, win []api.Rat, k int) ([][]api.Int, api.Int, api.Errno) {
		s, _ := seq.Define(a, win)
		return split.Step(s, k)
	}
	between := func(a api.Op, win []api.Rat, from, to int) ([][]api.Int, api.Int, api.Errno) {
		s, _ := seq.Define(a, win)
		return split.Range(s, from, to)
	}
	// Of one sequence no two answers share memory.
	twice := func(a api.Op, win []api.Rat, n int) (product, product, product, product) {
		s, _ := seq.Define(a, win)
		first, one, _ := split.Step(s, n)
		second, two, _ := split.Step(s, n)
		third, three, _ := split.Range(s, 3, n)
		fourth, four, _ := split.Range(s, 3, n)
		return product{first, one}, product{second, two}, product{third, three}, product{fourth, four}
	}
	given := append(sequences(), pairs(relations(), windows()[:4])...)
	for _, c := range []call{
		{"split.Term", term, with(given, numbers)},
		{"split.Step", step, with(given, numbers)},
		{"split.Range", between, with(with(sequences(), numbers), numbers)},
		{"split.Step and Range, told twice", twice, with(given, numbers)},
		{"split.Term of none", func(n int) (api.Rat, api.Errno) { return split.Term(nil, n) }, ones(numbers)},
		{"split.Step of none", func(k int) ([][]api.Int, api.Int, api.Errno) { return split.Step(nil, k) }, ones(numbers)},
		{"split.Range of none", func(from, to int) ([][]api.Int, api.Int, api.Errno) { return split.Range(nil, from, to) }, pairs(numbers, numbers)},
	} {
		hold(t, c)
	}
}
