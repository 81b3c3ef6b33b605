package closure_test

import (
	"reflect"
	"slices"
	"testing"

	"ashlar/api"
	"ashlar/closure"
	"ashlar/limbs"
	"ashlar/seq"
)

// told is what a result says.
type told struct {
	op       api.Op
	win      []api.Rat
	singular []int
	e        api.Errno
}

func tell(s *seq.Seq, e api.Errno) told { return told{s.Op(), s.Window(), s.Singular(), e} }

// scribbleInt writes into all memory of a number, its spare room too.
func scribbleInt(a *api.Int) {
	words := a.L[:cap(a.L)]
	for i := range words {
		words[i] ^= 0x5a5a5a5a
	}
	*a = api.Int{Neg: !a.Neg}
}

// scribble writes into all that a result tells.
func (x told) scribble() {
	for _, q := range x.op {
		for i := range q {
			scribbleInt(&q[i])
		}
	}
	for i := range x.win {
		scribbleInt(&x.win[i].Num)
		scribbleInt(&x.win[i].Den)
	}
	for i := range x.singular {
		x.singular[i] ^= 1
	}
}

// memorySeqs are sequences of all kinds.
func memorySeqs(t *testing.T) []*seq.Seq {
	t.Helper()
	out := []*seq.Seq{nil, seq.Const(over(3, 2)), seq.Poly(p(1, 0, 1)), seq.Poly(nil)}
	for _, c := range append(plainPairs()[:36:36], pairsOfNoOrder()...) {
		out = append(out, c.longer(len(out)%3).define(t))
	}
	return out
}

// No call changes a sequence that is handed in; each answers the same each time,
// whatever was asked between, and whatever is written into what was told.
func TestSequencesStay(t *testing.T) {
	all := memorySeqs(t)
	var before []told
	for _, s := range all {
		before = append(before, tell(s, api.OK))
	}
	var first []told
	var results []*seq.Seq
	ask := func(take func(s *seq.Seq, e api.Errno)) {
		for i, a := range all {
			for _, w := range ofOne() {
				take(w.ask(a, nil))
			}
			for _, w := range ofTwo() {
				take(w.ask(a, all[(i*7+3)%len(all)]))
			}
		}
	}
	ask(func(s *seq.Seq, e api.Errno) {
		tell(s, e).scribble()
		first, results = append(first, tell(s, e)), append(results, s)
	})
	for i, s := range all {
		if !reflect.DeepEqual(tell(s, api.OK), before[i]) {
			t.Errorf("P15.5: %s has changed", modelOf(s))
		}
	}
	n := 0
	ask(func(s *seq.Seq, e api.Errno) {
		if !reflect.DeepEqual(tell(s, e), first[n]) || results[n] != nil && !reflect.DeepEqual(tell(results[n], first[n].e), first[n]) {
			t.Errorf("P15.5: the answer %d is another the second time: %s", n, modelOf(s))
		}
		n++
	})
}

// The number of Scale is neither changed nor kept, in any form.
func TestNumbersStay(t *testing.T) {
	given := func(by int64) api.Rat {
		den := append(make([]uint32, 0, 9), limbs.Mul(limbs.Of(by), bitsOf(99)).L...)
		return api.Rat{Num: wide(limbs.Mul(limbs.Of(-by), bitsOf(70))), Den: api.Int{Neg: true, L: append(den, 0, 0)}}
	}
	for _, by := range []int64{1, 3, 1<<31 - 1} {
		for _, s := range []*seq.Seq{seq.Const(over(1, 1)), fibonacci(t), filled(api.Op{at(3, 1)}, 5, values(4, 5)).define(t)} {
			v := given(by)
			spare := v.Den.L[:cap(v.Den.L)]
			spare[len(spare)-1] = 77
			got, e := closure.Scale(v, s)
			want := tell(got, e)
			if !reflect.DeepEqual(v, given(by)) || spare[len(spare)-1] != 77 || e != api.OK {
				t.Errorf("P0.3: Scale changes what is handed in to %v: %d", v, e)
			}
			scribbleInt(&v.Num)
			scribbleInt(&v.Den)
			if !reflect.DeepEqual(tell(got, e), want) {
				t.Errorf("P15.5: Scale keeps what is handed in")
			}
		}
	}
}

// What a sequence was made of may be written into: what came of it stays.
func TestWhatWasHandedIn(t *testing.T) {
	given := func() (api.Op, []api.Rat) {
		return padded(api.Op{p(0, -1), at(2)}), raised(values(1, 0, 0, 7))
	}
	for _, w := range slices.Concat(ofOne(), ofTwo()) {
		a, win := given()
		s := pair{a, win}.define(t)
		got, e := w.ask(s, s)
		want := tell(got, e)
		told{op: a, win: win}.scribble()
		if !reflect.DeepEqual(tell(got, e), want) {
			t.Errorf("P15.5: %s: the result has changed with what it was made of", w.name)
		}
		again, f := w.ask(s, s)
		if !reflect.DeepEqual(tell(again, f), want) {
			t.Errorf("P15.5: %s: another answer the second time: %d", w.name, f)
		}
	}
}
