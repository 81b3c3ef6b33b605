package everywhere

import (
	"math"
	"testing"

	"ashlar/api"
	"ashlar/seq"
	"ashlar/upoly"
)

// told is all that a sequence tells; of none, beside an error, nothing.
type told struct {
	Op         api.Op
	Window     []api.Rat
	Order, Len int
	Singular   []int
	Free       []bool
}

func tell(s *seq.Seq) told {
	out := told{Op: s.Op(), Window: s.Window(), Order: s.Order(), Len: s.Len(), Singular: s.Singular()}
	for _, n := range []int{math.MinInt, -1, 0, 1, 2, 3, 4, math.MaxInt} {
		out.Free = append(out.Free, s.Free(n))
	}
	return out
}

func tellMade(s *seq.Seq, e api.Errno) (told, api.Errno) {
	if s == nil {
		return told{}, e
	}
	return tell(s), e
}

// relations are operators that some of windows fit, and such as none does.
func relations() []api.Op {
	n := polys()
	return append(someOps(),
		api.Op{upoly.Of(-1), upoly.Of(1)}, api.Op{upoly.Of(-1), upoly.Of(-1), upoly.Of(1)}, api.Op{nil, upoly.Of(-2, 1)},
		api.Op{upoly.Of(0, -1, 1)}, api.Op{n[0], n[3], nil}, api.Op{nil, upoly.Of(0, 0, -7), {}},
	)
}

// windows are values in any form, and zeros in many.
func windows() [][]api.Rat {
	n := rats()
	return append(ratLists(), make([]api.Rat, 1), make([]api.Rat, 3), make([]api.Rat, 4096), make([]api.Rat, 4097), []api.Rat{n[3], {}, n[2], {}}, []api.Rat{n[30], n[30], n[30]})
}

func TestSeq(t *testing.T) {
	define := func(a api.Op, win []api.Rat) (told, api.Errno) { return tellMade(seq.Define(a, win)) }
	twice := func(a api.Op, win []api.Rat) (told, told, api.Errno) {
		s, e := seq.Define(a, win)
		if s == nil {
			return told{}, told{}, e
		}
		return tell(s), tell(s), e
	}
	none := func() (told, told) {
		var s *seq.Seq
		return tell(s), tell(&seq.Seq{})
	}
	for _, c := range []call{
		{"seq.Define", define, pairs(relations(), windows())},
		{"seq.Define, told twice", twice, pairs(relations(), windows())},
		{"seq.Needs", seq.Needs, ones(append(ops(), relations()...))},
		{"seq.Const", func(v api.Rat) told { return tell(seq.Const(v)) }, ones(rats())},
		{"seq.Poly", func(p api.Poly) told { return tell(seq.Poly(p)) }, ones(polys())},
		{"a nil seq.Seq", none, [][]any{{}, {}}},
	} {
		hold(t, c)
	}
}
