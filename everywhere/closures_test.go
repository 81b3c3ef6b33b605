package everywhere

import (
	"math"
	"testing"

	"ashlar/api"
	"ashlar/closure"
	"ashlar/seq"
)

// ofSequence lets ask make something of the sequence that a pair defines.
func ofSequence[A any](ask func(s *seq.Seq, more A) (*seq.Seq, api.Errno)) any {
	return func(a api.Op, win []api.Rat, more A) (told, api.Errno) {
		s, _ := seq.Define(a, win)
		return tellMade(ask(s, more))
	}
}

// ofTwo lets ask make something of two such sequences, and of none beside one.
func ofTwo(ask func(a, b *seq.Seq) (*seq.Seq, api.Errno)) any {
	return func(a api.Op, win []api.Rat, b api.Op, other []api.Rat) (told, api.Errno) {
		s, _ := seq.Define(a, win)
		r, _ := seq.Define(b, other)
		return tellMade(ask(s, r))
	}
}

// twoSequences are pairs of pairs.
func twoSequences() [][]any {
	var out [][]any
	for _, c := range sequences() {
		for _, d := range append(sequences(), []any{api.Op{}, []api.Rat{}}) {
			out = append(out, []any{c[0], c[1], d[0], d[1]})
		}
	}
	return out
}

func TestClosure(t *testing.T) {
	numbers := []int{math.MinInt, -1, 0, 1, 2, 16, 17, math.MaxInt}
	kinds := []int{math.MinInt, -1, 0, 1, 2, 3, 4, 5, 6, 7, 8, 9, math.MaxInt}
	given := append(sequences(), pairs(relations(), windows()[:4])...)
	plain := func(ask func(s *seq.Seq) (*seq.Seq, api.Errno)) any {
		return ofSequence(func(s *seq.Seq, twice bool) (*seq.Seq, api.Errno) {
			if twice {
				ask(s)
			}
			return ask(s)
		})
	}
	parts := func(ask func(s *seq.Seq, k, j int) (*seq.Seq, api.Errno)) any {
		return func(a api.Op, win []api.Rat, k, j int) (told, api.Errno) {
			s, _ := seq.Define(a, win)
			return tellMade(ask(s, k, j))
		}
	}
	cost := func(a api.Op, win []api.Rat, kind, k int) int {
		s, _ := seq.Define(a, win)
		return closure.Cost(kind, s, s, k)
	}
	// What is made of a sequence leaves it as it is.
	left := func(a api.Op, win []api.Rat) (told, api.Errno) {
		s, e := seq.Define(a, win)
		closure.Sum(s, s)
		closure.Product(s, s)
		closure.Interlace(s, s)
		closure.Part(s, 2, 1)
		return tellMade(s, e)
	}
	scale := func(s *seq.Seq, v api.Rat) (*seq.Seq, api.Errno) { return closure.Scale(v, s) }
	for _, c := range []call{
		{"closure.Sum", ofTwo(closure.Sum), twoSequences()},
		{"closure.Product", ofTwo(closure.Product), twoSequences()},
		{"closure.Interlace", ofTwo(closure.Interlace), twoSequences()},
		{"closure.Scale", ofSequence(scale), with(given, rats())},
		{"closure.Partial", plain(closure.Partial), with(given, []bool{false, true})},
		{"closure.Next", plain(closure.Next), with(given, []bool{false, true})},
		{"closure.Part", parts(closure.Part), with(with(given, numbers), numbers)},
		{"closure.Spread", parts(closure.Spread), with(with(sequences(), numbers), numbers)},
		{"closure.Cost", cost, with(with(sequences(), kinds), numbers)},
		{"closure, what it leaves", left, given},
	} {
		hold(t, c)
	}
}
