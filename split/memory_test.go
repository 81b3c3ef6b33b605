package split_test

import (
	"reflect"
	"slices"
	"testing"

	"ashlar/api"
	"ashlar/limbs"
	"ashlar/seq"
	"ashlar/split"
)

// answer is what a call tells, as a list of numbers, each with its place.
type answer []*api.Int

func (a answer) add(m [][]api.Int) answer {
	for i := range m {
		for j := range m[i] {
			a = append(a, &m[i][j])
		}
	}
	return a
}

// answers are those of all three calls, at some numbers.
func answers(s *seq.Seq) []answer {
	var out []answer
	for _, n := range []int{0, 1, 4, 9, 30} {
		v, _ := split.Term(s, n)
		step, d, _ := split.Step(s, n)
		product, by, _ := split.Range(s, n, n+5)
		long, more, _ := split.Range(s, 11, 11+2*n)
		out = append(out, answer{&v.Num, &v.Den}, answer{&d}.add(step), answer{&by}.add(product), answer{&more}.add(long))
	}
	return out
}

// plain gives the numbers of answers, in memory of their own.
func plain(all []answer) [][]api.Int {
	var out [][]api.Int
	for _, a := range all {
		var numbers []api.Int
		for _, x := range a {
			numbers = append(numbers, api.Int{Neg: x.Neg, L: slices.Clone(x.L)})
		}
		out = append(out, numbers)
	}
	return out
}

// scribble writes into all memory of a number, its spare room too.
func scribble(a *api.Int) {
	words := a.L[:cap(a.L)]
	for i := range words {
		words[i] ^= 0x5a5a5a5a
	}
	*a = api.Int{Neg: !a.Neg}
}

// memorySeqs are sequences of all kinds.
func memorySeqs(t *testing.T) []*seq.Seq {
	t.Helper()
	out := []*seq.Seq{nil, seq.Const(over(3, 2)), seq.Poly(p(1, 0, 1)), seq.Poly(nil)}
	for _, c := range append(plainPairs(), pairsOfNoOrder()...) {
		out = append(out, c.define(t), c.longer(3).define(t))
	}
	return out
}

// Whatever was answered may be changed: neither the sequence nor another answer
// changes with it.
func TestAnswersOwnMemory(t *testing.T) {
	for _, s := range memorySeqs(t) {
		first, second := answers(s), answers(s)
		want, op, win := plain(first), s.Op(), s.Window()
		for _, a := range first {
			for _, x := range a {
				scribble(x)
			}
		}
		if !reflect.DeepEqual(plain(second), want) {
			t.Errorf("P0.3: of %s: answers were changed, and others, too", modelOf(s))
		}
		if !reflect.DeepEqual(plain(answers(s)), want) || !reflect.DeepEqual(s.Op(), op) || !reflect.DeepEqual(s.Window(), win) {
			t.Errorf("P0.3: %s has changed with its answers", modelOf(s))
		}
	}
}

// No two numbers of an answer share memory.
func TestNumbersOfOneAnswer(t *testing.T) {
	for _, s := range memorySeqs(t) {
		if s.Order() > 6 {
			continue // It would take long, and tell nothing more.
		}
		want := plain(answers(s))
		for i := range want {
			all := answers(s)
			for j, x := range all[i] {
				scribble(x)
				*x = limbs.Add(want[i][j], api.Int{})
				if !reflect.DeepEqual(plain(all[i:i+1]), want[i:i+1]) {
					t.Errorf("P0.3: of %s: the number %d of the answer %d shares its memory", modelOf(s), j, i)
				}
			}
		}
	}
}

// No two rows of a matrix share memory, their spare room neither.
func TestRowsOfOneAnswer(t *testing.T) {
	for _, s := range memorySeqs(t) {
		for _, n := range []int{0, 1, 5, 40} {
			m, _, _ := split.Range(s, 11, 11+n)
			want := plain([]answer{answer{}.add(m)})
			for i := range m {
				row := slices.Clone(m[i])
				spare := m[i][:cap(m[i])]
				for j := range spare {
					spare[j] = limbs.Of(77)
				}
				copy(m[i], row)
				if !reflect.DeepEqual(plain([]answer{answer{}.add(m)}), want) {
					t.Errorf("P0.3: Range(%s, 11, %d): the row %d shares its memory", modelOf(s), 11+n, i)
				}
			}
		}
	}
}

// What a sequence was made of is neither changed nor kept by what is asked of it.
func TestWhatWasHandedIn(t *testing.T) {
	given := func() (api.Op, []api.Rat) {
		return padded(api.Op{p(1, 1), p(-3, -2), p(2, 1)}), raised(values(3, 7))
	}
	a, win := given()
	s, e := seq.Define(a, win)
	if e != api.OK {
		t.Fatalf("Define: %d", e)
	}
	want := plain(answers(s))
	b, other := given()
	if !reflect.DeepEqual(a, b) || !reflect.DeepEqual(win, other) {
		t.Errorf("P0.3: what was handed in has changed")
	}
	for i := range a {
		for j := range a[i] {
			scribble(&a[i][j])
		}
	}
	for i := range win {
		scribble(&win[i].Num)
		scribble(&win[i].Den)
	}
	if !reflect.DeepEqual(plain(answers(s)), want) {
		t.Errorf("P0.3: what was handed in was kept")
	}
}

// The same call answers the same each time, whatever was asked between.
func TestTheSameEachTime(t *testing.T) {
	all := memorySeqs(t)
	var first [][][]api.Int
	for _, s := range all {
		first = append(first, plain(answers(s)))
	}
	for i, s := range all {
		if !reflect.DeepEqual(plain(answers(s)), first[i]) {
			t.Errorf("P0.5: %s answers otherwise the second time", modelOf(s))
		}
	}
}
