package seq_test

import (
	"math"
	"reflect"
	"slices"
	"testing"

	"ashlar/api"
	"ashlar/limbs"
	"ashlar/rat"
	"ashlar/seq"
	"ashlar/upoly"
)

// A nil sequence, and one that no call has made: the operator 1 without a window.
func TestNoSequence(t *testing.T) {
	for _, s := range []*seq.Seq{nil, {}, new(seq.Seq)} {
		for range 2 {
			modelOf(api.Op{p(1)}, nil).expectOf(t, s)
			if !isOp(s.Op(), modelOf(api.Op{p(1)}, nil).op) || s.Order() != 0 || s.Len() != 0 || len(s.Window()) != 0 || len(s.Singular()) != 0 {
				t.Errorf("P11.4: a nil sequence: %v, %v", s.Op(), s.Window())
			}
			for _, n := range []int{math.MinInt, -1, 0, 1, 4096, math.MaxInt} {
				if s.Free(n) {
					t.Errorf("P11.4: a nil sequence: %d is free", n)
				}
			}
			scribbleOp(s.Op())
		}
		if again, e := seq.Define(s.Op(), s.Window()); e != api.OK || again.Order() != 0 {
			t.Errorf("P11.4: Define of a nil sequence's operator and window: %d", e)
		}
	}
}

// told is all that a sequence tells.
type told struct {
	Op         api.Op
	Window     []api.Rat
	Order, Len int
	Singular   []int
	Free       []bool
}

func tell(s *seq.Seq) told {
	out := told{Op: s.Op(), Window: s.Window(), Order: s.Order(), Len: s.Len(), Singular: s.Singular()}
	for n := -2; n < 20; n++ {
		out.Free = append(out.Free, s.Free(n))
	}
	return out
}

// kept gives what a sequence tells in memory that it can't reach.
func kept(s *seq.Seq) told {
	out := tell(s)
	out.Op, out.Window = copied(out.Op, out.Window)
	out.Singular = slices.Clone(out.Singular)
	return out
}

// isSame tells whether two tell the same, in the same form.
func isSame(a, b told) bool {
	a.Op, a.Window = copied(a.Op, a.Window)
	b.Op, b.Window = copied(b.Op, b.Window)
	return slices.Equal(a.Singular, b.Singular) && slices.Equal(a.Free, b.Free) && a.Order == b.Order && a.Len == b.Len &&
		reflect.DeepEqual(a.Op, b.Op) && reflect.DeepEqual(a.Window, b.Window)
}

func scribbleInt(a *api.Int) {
	words := a.L[:cap(a.L)]
	for i := range words {
		words[i] ^= 0x5a5a5a5a
	}
	*a = api.Int{Neg: !a.Neg}
}

func scribblePoly(p api.Poly) {
	p = p[:cap(p)]
	for i := range p {
		scribbleInt(&p[i])
	}
}

// scribbleOp writes into all memory of an operator, its spare room too.
func scribbleOp(a api.Op) {
	a = a[:cap(a)]
	for i := range a {
		scribblePoly(a[i])
		a[i] = nil
	}
}

func scribbleWindow(win []api.Rat) {
	win = win[:cap(win)]
	for i := range win {
		scribbleInt(&win[i].Num)
		scribbleInt(&win[i].Den)
	}
}

func scribbleInts(ns []int) {
	ns = ns[:cap(ns)]
	for i := range ns {
		ns[i] = ^ns[i]
	}
}

func copiedInt(a api.Int) api.Int {
	return api.Int{Neg: a.Neg, L: append(make([]uint32, 0, len(a.L)+1), a.L...)}
}

func copiedPoly(p api.Poly) api.Poly {
	out := make(api.Poly, len(p), len(p)+2)
	for i, c := range p {
		out[i] = copiedInt(c)
	}
	return out
}

// copied gives an operator and a window in memory of their own, in the same form.
func copied(a api.Op, win []api.Rat) (api.Op, []api.Rat) {
	op, values := make(api.Op, len(a), len(a)+2), make([]api.Rat, len(win), len(win)+2)
	for i, p := range a {
		op[i] = copiedPoly(p)
	}
	for i, v := range win {
		values[i] = api.Rat{Num: copiedInt(v.Num), Den: copiedInt(v.Den)}
	}
	return op, values
}

// pair is what Define is handed.
type pair struct {
	a   api.Op
	win []api.Rat
}

// memoryPairs are in normal form and in others; some are refused.
func memoryPairs() []pair {
	plain := []pair{
		{api.Op{p(-1), p(-1), p(1)}, values(0, 1, 1, 2, 3)}, {api.Op{p(0, -1), at(2)}, values(1, 0, 0, 7)}, {api.Op{at(3, 1)}, values(0, 4, 0, 5)},
		{api.Op{p(1)}, nil}, {api.Op{p(-4)}, values(0, 0)}, {api.Op{p(-1, -1), p(1)}, []api.Rat{{Num: bitsOf(100), Den: limbs.Of(7)}}},
		{api.Op{{bitsOf(99)}, {limbs.Neg(bitsOf(70)), limbs.Of(-1)}}, []api.Rat{over(1, 2)}}, {api.Op{p(-1), p(-1), p(1)}, values(0)}, {api.Op{p(-1, -1), p(1)}, values(1, 1, 3)},
		{nil, values(1, 2)}, {append(make(api.Op, 300), p(1)), values(4)},
	}
	out := slices.Clone(plain)
	for _, c := range plain {
		out = append(out, pair{padded(c.a), c.win}, pair{c.a, raised(c.win)}, pair{padded(c.a), raised(c.win)})
	}
	return out
}

// What is handed in is neither changed nor kept, its spare room neither.
func TestArgumentsAreLeftAlone(t *testing.T) {
	for _, c := range memoryPairs() {
		a, win := copied(c.a, c.win)
		s, e := seq.Define(a, win)
		needs, _ := seq.Needs(a)
		wantOp, wantWin := copied(c.a, c.win)
		if !reflect.DeepEqual(a[:cap(a)], wantOp[:cap(wantOp)]) || !reflect.DeepEqual(win[:cap(win)], wantWin[:cap(wantWin)]) {
			t.Errorf("P11.4: Define(%s) changes what it is handed", modelOf(c.a, c.win))
		}
		before, same := kept(s), copiedInt(needs)
		scribbleOp(a)
		scribbleWindow(win)
		other, again := seq.Define(c.a, c.win)
		if after := tell(s); !isSame(after, before) || !isSame(after, tell(other)) || e != again {
			t.Errorf("P11.4: the sequence of %s has changed with what was handed in", modelOf(c.a, c.win))
		}
		if limbs.Cmp(same, needs) != 0 {
			t.Errorf("P11.4: Needs(%s) has changed with what was handed in", modelOf(c.a, c.win))
		}
	}
}

func TestValuesAreLeftAlone(t *testing.T) {
	for _, q := range []api.Poly{nil, p(5), p(1, 2, 3), {bitsOf(100)}, paddedPoly(p(4, 0, -1)), {limbs.Of(2), bitsOf(70)}} {
		given := copiedPoly(q)
		s := seq.Poly(given)
		if !reflect.DeepEqual(given[:cap(given)], copiedPoly(q)[:cap(given)]) {
			t.Errorf("P11.4: Poly changes what it is handed")
		}
		before := kept(s)
		scribblePoly(given)
		if after := tell(s); !isSame(after, before) || !isSame(after, tell(seq.Poly(q))) {
			t.Errorf("P11.4: Poly(%v) has changed with what was handed in", toBig(q))
		}
	}
	for _, v := range append(raised(values(0, 3, 9, 18)), values(5)[0], api.Rat{Num: bitsOf(90), Den: bitsOf(80)}) {
		given := api.Rat{Num: copiedInt(v.Num), Den: copiedInt(v.Den)}
		s := seq.Const(given)
		if !reflect.DeepEqual(given, api.Rat{Num: copiedInt(v.Num), Den: copiedInt(v.Den)}) {
			t.Errorf("P11.4: Const changes what it is handed")
		}
		before := kept(s)
		scribbleWindow([]api.Rat{given})
		if after := tell(s); !isSame(after, before) || !isSame(after, tell(seq.Const(v))) {
			t.Errorf("P11.4: Const(%s) has changed with what was handed in", rat.Text(v))
		}
	}
}

// A list that was answered may be changed without changing the sequence.
func TestAnswersOwnMemory(t *testing.T) {
	all := []*seq.Seq{seq.Const(over(3, 2)), seq.Poly(nil), seq.Poly(p(1, 0, 1)), seq.Poly(api.Poly{bitsOf(70), bitsOf(90)}), nil, {}}
	for _, c := range memoryPairs() {
		if s, e := seq.Define(c.a, c.win); e == api.OK {
			all = append(all, s)
		}
	}
	for _, s := range all {
		want := kept(s)
		for range 2 {
			got, other := tell(s), tell(s)
			scribbleOp(got.Op)
			scribbleWindow(got.Window)
			scribbleInts(got.Singular)
			if !isSame(other, want) || !isSame(tell(s), want) {
				t.Errorf("P11.4: of %v, %v: an answer was changed, and another one, too", want.Op, want.Window)
			}
		}
	}
}

// The lists of one answer share no memory either.
func TestListsOfOneAnswer(t *testing.T) {
	same := []api.Rat{over(3, 2), over(3, 2), over(3, 2)}
	constant, _ := seq.Define(api.Op{p(-1), p(1)}, same)
	for _, s := range []*seq.Seq{seq.Poly(p(1, 1, 1, 1, 1)), constant, seq.Poly(p(9))} {
		wantOp, wantWin := copied(s.Op(), s.Window())
		for i := range wantOp {
			op := s.Op()
			scribblePoly(op[i])
			for j, q := range wantOp {
				if j != i && !upoly.Eq(op[j], q) {
					t.Errorf("P11.4: entries %d and %d of Op share memory", i, j)
				}
			}
		}
		for i := range wantWin {
			win := s.Window()
			scribbleWindow(win[i : i+1 : i+1])
			for j, v := range wantWin {
				if j != i && rat.Cmp(win[j], v) != 0 {
					t.Errorf("P11.4: values %d and %d of Window share memory", i, j)
				}
			}
		}
	}
}
