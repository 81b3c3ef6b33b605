package convert_test

import (
	"reflect"
	"testing"

	"ashlar/api"
	"ashlar/convert"
	"ashlar/limbs"
	"ashlar/seq"
)

// told is what a call says.
type told struct {
	op  api.Op
	win []api.Rat
	v   api.Rat
	e   api.Errno
}

// scribbleInt writes into all memory of a number, its spare room too.
func scribbleInt(a *api.Int) {
	words := a.L[:cap(a.L)]
	for i := range words {
		words[i] ^= 0x5a5a5a5a
	}
	*a = api.Int{Neg: !a.Neg}
}

// scribble writes into all that a call told.
func (x told) scribble() {
	for _, q := range x.op[:cap(x.op)] {
		q = q[:cap(q)]
		for i := range q {
			scribbleInt(&q[i])
		}
	}
	for i := range x.win {
		scribbleInt(&x.win[i].Num)
		scribbleInt(&x.win[i].Den)
	}
	scribbleInt(&x.v.Num)
	scribbleInt(&x.v.Den)
}

// asked are calls of all kinds, of a sequence and an operator.
func asked() []func(s *seq.Seq, a api.Op) told {
	return []func(s *seq.Seq, a api.Op) told{
		func(s *seq.Seq, a api.Op) told {
			d, e := convert.ToDiff(s)
			return told{op: d, e: e}
		},
		func(s *seq.Seq, a api.Op) told {
			r, e := convert.ToShift(a)
			return told{op: r, e: e}
		},
		func(s *seq.Seq, a api.Op) told {
			back, e := convert.Solve(a, s.Window())
			return told{op: back.Op(), win: back.Window(), e: e}
		},
		func(s *seq.Seq, a api.Op) told {
			v, e := convert.Coeff(a, s, 3)
			return told{v: v, e: e}
		},
	}
}

func memorySeqs(t *testing.T) []*seq.Seq {
	t.Helper()
	out := []*seq.Seq{nil, {}, seq.Const(over(3, 2)), seq.Poly(p(1, 0, 1)), seq.Poly(nil)}
	for _, c := range append(plainPairs(), pairsOfNoOrder()...) {
		out = append(out, c.longer(len(out)%3).define(t))
	}
	return out
}

// No call changes a sequence that is handed in; each answers the same each time,
// whatever was asked between, and whatever is written into what was told.
func TestAnswersStay(t *testing.T) {
	all, ops := memorySeqs(t), someOps()
	stands := func(s *seq.Seq) told { return told{op: s.Op(), win: s.Window()} }
	var before, first []told
	for _, s := range all {
		before = append(before, stands(s))
	}
	ask := func(take func(x told)) {
		for i, s := range all {
			for j, call := range asked() {
				take(call(s, ops[(3*i+j)%len(ops)]))
			}
		}
	}
	ask(func(x told) { first = append(first, x) })
	ask(func(x told) { x.scribble() })
	for i, s := range all {
		if !reflect.DeepEqual(stands(s), before[i]) {
			t.Errorf("P0.3: %s has changed", modelOf(s))
		}
	}
	n := 0
	ask(func(x told) {
		if !reflect.DeepEqual(x, first[n]) {
			t.Errorf("P0.5: the answer %d is another the third time: %v, not %v", n, x, first[n])
		}
		n++
	})
}

// What is handed in may be written into: what came of it stays.
func TestWhatWasHandedIn(t *testing.T) {
	for i, c := range append(plainPairs(), pairsOfNoOrder()...) {
		a, win := padded(c.a), raised(c.win)
		s := pair{a, win}.define(t)
		equation := padded(someOps()[i%len(someOps())])
		var before, want []told
		for _, call := range asked() {
			before = append(before, call(s, equation))
			want = append(want, call(s, padded(someOps()[i%len(someOps())])))
		}
		back, e := convert.Solve(equation, win)
		solved := told{op: back.Op(), win: back.Window(), e: e}
		told{op: a, win: win}.scribble()
		told{op: equation}.scribble()
		if !reflect.DeepEqual(before, want) {
			t.Errorf("P0.3: of %v: an answer has changed with what was handed in", c.a)
		}
		if again := (told{op: back.Op(), win: back.Window(), e: e}); !reflect.DeepEqual(again, solved) {
			t.Errorf("P0.3: of %v: what was solved has changed with what was handed in", c.a)
		}
	}
}

// What is handed in stays as it is, its spare room too.
func TestArgumentsStay(t *testing.T) {
	given := func() (api.Op, []api.Rat) {
		words := append(make([]uint32, 0, 5), 3, 0)
		entry := append(make(api.Poly, 0, 4), api.Int{Neg: true, L: words}, api.Int{L: []uint32{7, 0, 0}}, api.Int{L: []uint32{0}})
		a := append(make(api.Op, 0, 6), entry, nil, api.Poly{limbs.Of(2), {Neg: true}})
		win := append(make([]api.Rat, 0, 9), raised(values(1, 0, -2, 5))...)
		a[:4][3] = api.Poly{limbs.Of(77)}
		win[:5][4] = over(9, 7)
		words[:3][2] = 5
		return a, win
	}
	a, win := given()
	again, other := given()
	s := fibonacci(t)
	convert.ToShift(a)
	convert.Solve(a, win)
	for n := range 9 {
		convert.Coeff(a, s, n)
	}
	if !reflect.DeepEqual(a[:4], again[:4]) || !reflect.DeepEqual(win[:5], other[:5]) || a[0][0].L[:3][2] != 5 {
		t.Errorf("P0.3: what was handed in has changed: %v, %v", a[:4], win[:5])
	}
}
