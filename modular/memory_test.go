package modular_test

import (
	"reflect"
	"runtime"
	"testing"

	"ashlar/api"
	"ashlar/limbs"
	"ashlar/modular"
	"ashlar/seq"
)

// answer is what a call tells.
type answer struct {
	r int64
	e api.Errno
}

// answers are those of Term, at some numbers and modulo some primes.
func answers(s *seq.Seq) []answer {
	var out []answer
	for _, n := range []int{-1, 0, 1, 4, 9, 30, 4097} {
		for _, p := range append(fewPrimes(), 6) {
			r, e := modular.Term(s, n, p)
			out = append(out, answer{r, e})
		}
	}
	return out
}

// memorySeqs are sequences of all kinds.
func memorySeqs(t *testing.T) []*seq.Seq {
	t.Helper()
	out := []*seq.Seq{nil, seq.Const(over(3, 2)), seq.Poly(p(1, 0, 1)), seq.Poly(nil)}
	for _, c := range append(plainPairs(), pairsOfNoOrder()...) {
		out = append(out, c.define(t), c.longer(3).define(t))
	}
	return out
}

// scribble writes into all memory of a number, its spare room too.
func scribble(a *api.Int) {
	words := a.L[:cap(a.L)]
	for i := range words {
		words[i] ^= 0x5a5a5a5a
	}
	*a = api.Int{Neg: !a.Neg}
}

// What a sequence was made of is neither changed nor kept by what is asked of it.
func TestWhatWasHandedIn(t *testing.T) {
	given := func() (api.Op, []api.Rat) {
		return padded(api.Op{p(1, 1), p(-3, -2), p(2, 1)}), raised(values(3, 7))
	}
	a, win := given()
	s := pair{a, win}.define(t)
	want := answers(s)
	b, other := given()
	if !reflect.DeepEqual(a, b) || !reflect.DeepEqual(win, other) {
		t.Errorf("P0.3: what was handed in has changed")
	}
	for i := range a {
		for j := range a[i] {
			scribble(&a[i][j])
		}
	}
	for i := range win {
		scribble(&win[i].Num)
		scribble(&win[i].Den)
	}
	if !reflect.DeepEqual(answers(s), want) {
		t.Errorf("P0.3: what was handed in was kept")
	}
}

// Term changes nothing of a sequence, and answers the same each time, whatever was
// asked between.
func TestSequencesStay(t *testing.T) {
	all := memorySeqs(t)
	var first [][]answer
	for _, s := range all {
		op, win, singular := s.Op(), s.Window(), s.Singular()
		first = append(first, answers(s))
		if !reflect.DeepEqual(s.Op(), op) || !reflect.DeepEqual(s.Window(), win) || !reflect.DeepEqual(s.Singular(), singular) {
			t.Errorf("P0.3: %s has changed", modelOf(s))
		}
	}
	for i, s := range all {
		if !reflect.DeepEqual(answers(s), first[i]) {
			t.Errorf("P0.5: %s answers otherwise the second time", modelOf(s))
		}
	}
}

// Rat leaves both parts alone, in any form, and keeps neither.
func TestRatsStay(t *testing.T) {
	given := func(by int64) api.Rat {
		den := append(make([]uint32, 0, 9), limbs.Mul(limbs.Of(by), bitsOf(99)).L...)
		return api.Rat{Num: wide(limbs.Mul(limbs.Of(-by), bitsOf(70))), Den: api.Int{Neg: true, L: append(den, 0, 0)}}
	}
	for _, by := range []int64{1, 3, 7, 1<<31 - 1} {
		v := given(by)
		spare := v.Den.L[:cap(v.Den.L)]
		spare[len(spare)-1] = 77
		for _, p := range append(fewPrimes(), 1) {
			r, e := modular.Rat(v, p)
			if !reflect.DeepEqual(v, given(by)) || spare[len(spare)-1] != 77 {
				t.Errorf("P0.3: Rat(.., %d) changes what is handed in to %v", p, v)
			}
			scribble(&v.Num)
			scribble(&v.Den)
			v = given(by)
			spare = v.Den.L[:cap(v.Den.L)]
			spare[len(spare)-1] = 77
			if q, f := modular.Rat(v, p); q != r || f != e {
				t.Errorf("P0.5: Rat(%v, %d): %d, %d, then %d, %d", v, p, r, e, q, f)
			}
		}
	}
}

// Values of some hundred words, and more, are told without them: what is made on
// the way to the last index takes far less memory than they would.
func TestNoGreatNumbers(t *testing.T) {
	for _, s := range []*seq.Seq{factorials(t), inverses(t), fibonacci(t), pair{api.Op{p(-1, 0, 0, -3), p(2, 1), p(5, 0, 7)}, []api.Rat{over(1, 3), over(2, 9)}}.define(t)} {
		var before, after runtime.MemStats
		runtime.ReadMemStats(&before)
		_, e := modular.Term(s, 4096, 1<<31-1)
		runtime.ReadMemStats(&after)
		if took := after.TotalAlloc - before.TotalAlloc; e != api.OK || took > 1<<19 {
			t.Errorf("P14.2: Term(%s, 4096, ..): %d, and takes %d bytes", modelOf(s), e, took)
		}
	}
}
