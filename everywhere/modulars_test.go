package everywhere

import (
	"math"
	"testing"

	"ashlar/api"
	"ashlar/modular"
	"ashlar/seq"
)

func TestModular(t *testing.T) {
	numbers := []int{math.MinInt, -1, 0, 1, 2, 3, 5, 30, 4096, 4097, math.MaxInt}
	primes := append(wholes(), 2, 3, 5, 9, 91, 1000003)
	term := func(a api.Op, win []api.Rat, n int, p int64) (int64, api.Errno) {
		s, _ := seq.Define(a, win)
		return modular.Term(s, n, p)
	}
	// What is told of a sequence leaves it as it is.
	left := func(a api.Op, win []api.Rat, n int, p int64) (told, api.Errno) {
		s, e := seq.Define(a, win)
		if s != nil {
			modular.Term(s, n, p)
		}
		return tellMade(s, e)
	}
	given := append(sequences(), pairs(relations(), windows()[:4])...)
	for _, c := range []call{
		{"modular.Prime", modular.Prime, ones(primes)},
		{"modular.Inverse", modular.Inverse, pairs(wholes(), primes)},
		{"modular.Rat", modular.Rat, pairs(rats(), primes)},
		{"modular.Term", term, with(with(given, numbers), primes)},
		{"modular.Term, what it leaves", left, with(with(sequences(), numbers), primes)},
		{"modular.Term of none", func(n int, p int64) (int64, api.Errno) { return modular.Term(nil, n, p) }, pairs(numbers, primes)},
	} {
		hold(t, c)
	}
}
