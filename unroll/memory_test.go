package unroll_test

import (
	"reflect"
	"testing"

	"ashlar/api"
	"ashlar/seq"
	"ashlar/unroll"
)

func scribbleInt(a *api.Int) {
	words := a.L[:cap(a.L)]
	for i := range words {
		words[i] ^= 0x5a5a5a5a
	}
	*a = api.Int{Neg: !a.Neg}
}

func scribbleRat(v *api.Rat) {
	scribbleInt(&v.Num)
	scribbleInt(&v.Den)
}

// scribble writes into all memory of a list, its spare room too.
func scribble(vs []api.Rat) {
	vs = vs[:cap(vs)]
	for i := range vs {
		scribbleRat(&vs[i])
	}
}

func copiedInt(a api.Int) api.Int {
	return api.Int{Neg: a.Neg, L: append(make([]uint32, 0, len(a.L)+1), a.L...)}
}

// copied gives values in memory of their own, in the same form.
func copied(vs []api.Rat) []api.Rat {
	out := make([]api.Rat, len(vs), len(vs)+2)
	for i, v := range vs {
		out[i] = api.Rat{Num: copiedInt(v.Num), Den: copiedInt(v.Den)}
	}
	return out
}

func copiedOp(a api.Op) api.Op {
	out := make(api.Op, len(a), len(a)+2)
	for i, q := range a {
		out[i] = make(api.Poly, len(q), len(q)+2)
		for j, c := range q {
			out[i][j] = copiedInt(c)
		}
	}
	return out
}

// memorySeqs are sequences of all kinds.
func memorySeqs(t *testing.T) []*seq.Seq {
	t.Helper()
	out := []*seq.Seq{nil, seq.Const(over(3, 2)), seq.Poly(p(1, 0, 1)), seq.Poly(nil)}
	for _, c := range plainPairs() {
		longer := c.longer(3)
		out = append(out, define(t, c.a, c.win), define(t, longer.a, longer.win))
	}
	return out
}

// isKept tells whether a list that stays within this function says the same.
func isKept(got, want []api.Rat) bool {
	return len(got) == len(want) && (len(got) == 0 || reflect.DeepEqual(copied(got), copied(want)))
}

// A value or a list that was answered may be changed: neither the sequence nor
// another answer changes with it.
func TestAnswersOwnMemory(t *testing.T) {
	for _, s := range memorySeqs(t) {
		first, _ := unroll.Terms(s, 30)
		want := copied(first)
		op, win := copiedOp(s.Op()), copied(s.Window())
		second, _ := unroll.Terms(s, 30)
		scribble(first)
		if !isKept(second, want) {
			t.Errorf("P0.3: of %s: an answer of Terms was changed, and another one, too", modelOf(s))
		}
		for k := range want {
			v, _ := unroll.Term(s, k)
			other, _ := unroll.Term(s, k)
			scribbleRat(&v)
			again, _ := unroll.Term(s, k)
			if !isKept([]api.Rat{other, again}, []api.Rat{want[k], want[k]}) {
				t.Errorf("P0.3: of %s: an answer of Term at %d was changed, and another one, too", modelOf(s), k)
			}
		}
		if !reflect.DeepEqual(copiedOp(s.Op()), op) || !isKept(s.Window(), win) {
			t.Errorf("P0.3: the sequence of %v has changed", opToBig(op))
		}
	}
}

// No two values of a list share memory.
func TestValuesOfOneList(t *testing.T) {
	for _, s := range memorySeqs(t) {
		vs, _ := unroll.Terms(s, 25)
		want := copied(vs)
		for i := range want {
			got, _ := unroll.Terms(s, 25)
			scribbleInt(&got[i].Num)
			got[i].Num = copiedInt(want[i].Num)
			if !isKept(got, want) {
				t.Errorf("P0.3: of %s: the Num at %d shares its memory", modelOf(s), i)
			}
			got, _ = unroll.Terms(s, 25)
			scribbleInt(&got[i].Den)
			got[i].Den = copiedInt(want[i].Den)
			if !isKept(got, want) {
				t.Errorf("P0.3: of %s: the Den at %d shares its memory", modelOf(s), i)
			}
		}
	}
}

// Whoever ranges over All may write into each value as it comes.
func TestScribbledOnTheWay(t *testing.T) {
	for _, s := range memorySeqs(t) {
		vs, _ := unroll.Terms(s, 40)
		want := copied(vs)
		all := unroll.All(s)
		for range 2 {
			for k, v := range all {
				if k == len(want) {
					break
				}
				if !isKept([]api.Rat{v}, want[k:k+1]) {
					t.Fatalf("P0.3: of %s: the value at %d is another, as those ahead of it were changed", modelOf(s), k)
				}
				scribbleRat(&v)
			}
		}
	}
}

// What Holds is handed is neither changed nor kept.
func TestArgumentsAreLeftAlone(t *testing.T) {
	for _, s := range memorySeqs(t) {
		for _, a := range append(someOps(), padded(api.Op{p(-1), p(-1), p(1)}), zeroOps()[2]) {
			given := copiedOp(a)
			first, e := unroll.Holds(s, given, 3)
			if want := copiedOp(a); !reflect.DeepEqual(given[:cap(given)], want[:cap(want)]) {
				t.Errorf("P0.3: Holds changes what it is handed: %v", opToBig(a))
			}
			for i := range given {
				for j := range given[i] {
					scribbleInt(&given[i][j])
				}
			}
			if again, f := unroll.Holds(s, a, 3); again != first || e != f {
				t.Errorf("P0.3: Holds(%s, %v, 3): %v, then %v", modelOf(s), opToBig(a), first, again)
			}
		}
	}
}
