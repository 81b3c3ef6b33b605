package walks_test

import (
	"math/rand"
	"testing"

	"ashlar/api"
	"ashlar/limbs"
	"ashlar/rat"
	"ashlar/seq"
	"ashlar/unroll"
	"ashlar/upoly"
	"ashlar/walks"
)

func sequences(t *testing.T) []*seq.Seq {
	t.Helper()
	out := []*seq.Seq{nil, {}, seq.Const(api.Rat{Num: limbs.Of(-2), Den: limbs.Of(3)}), seq.Poly(upoly.Of(1, 0, 2))}
	one := api.Rat{Num: limbs.Of(1), Den: limbs.Of(1)}
	for _, c := range []struct {
		op  api.Op
		win []api.Rat
	}{
		{api.Op{upoly.Of(-1), upoly.Of(-1), upoly.Of(1)}, []api.Rat{{}, one}}, {api.Op{upoly.Of(-1), upoly.Of(1, 1)}, []api.Rat{one}},
		{api.Op{upoly.Of(1, 1), upoly.Of(-3, -2), upoly.Of(2, 1)}, []api.Rat{{}, one}}, {api.Op{upoly.Of(0, -1), upoly.Of(-2, 1)}, []api.Rat{one, {}, {}, one}},
		{api.Op{upoly.Of(-3, 1)}, []api.Rat{{}, {}, {}, one}},
	} {
		s, e := seq.Define(c.op, c.win)
		if e != api.OK {
			t.Fatalf("Define: %d", e)
		}
		out = append(out, s)
	}
	return out
}

// Asked in any order, the values are those that unroll tells.
func TestKnownValues(t *testing.T) {
	d := rand.New(rand.NewSource(18))
	for i, s := range sequences(t) {
		want, e := unroll.Terms(s, 60)
		known := walks.Of(s)
		for range 90 {
			n := d.Intn(60)
			if v := known.At(n); e != api.OK || rat.Text(v) != rat.Text(want[n]) || rat.Bits(v) != limbs.Bits(v.Num)+limbs.Bits(v.Den) {
				t.Errorf("the sequence %d at %d: %s", i, n, rat.Text(v))
			}
		}
		for n, v := range walks.Values(s, 60) {
			if rat.Cmp(v, want[n]) != 0 {
				t.Errorf("the sequence %d, gone over, at %d: %s", i, n, rat.Text(v))
			}
		}
		for n, v := range walks.Behind(s, 59) {
			if rat.Cmp(v, want[n]) != 0 || n < s.Len() {
				t.Errorf("the sequence %d, behind its window, at %d: %s", i, n, rat.Text(v))
			}
		}
	}
}

// Nothing is refused: neither an index behind MaxIndex, nor a great estimate.
func TestNothingIsRefused(t *testing.T) {
	for i, s := range sequences(t) {
		known := walks.Of(s)
		for _, n := range []int{5000, 4097, 4500} {
			// The order is at most 3 here: the relation of the value holds.
			if k := n - s.Order(); !held(s, k, known) {
				t.Errorf("the sequence %d at %d: its relation does not hold", i, n)
			}
		}
	}
	huge := api.Rat{Num: api.Int{L: append(make([]uint32, 1<<16), 1)}, Den: limbs.Of(1)}
	if _, e := unroll.Term(seq.Const(huge), 1); e != api.ErrBig || rat.Cmp(walks.Of(seq.Const(huge)).At(1), huge) != 0 {
		t.Errorf("a value of many bits: %d", e)
	}
}

func held(s *seq.Seq, n int, known *walks.Known) bool {
	sum := walks.At(n)
	for i, c := range s.Op() {
		sum.Add(c, known.At(n+i))
	}
	return limbs.Sign(sum.Total().Num) == 0
}
