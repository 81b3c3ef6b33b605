package unroll_test

import (
	"iter"
	"reflect"
	"testing"

	"ashlar/api"
	"ashlar/limbs"
	"ashlar/seq"
	"ashlar/unroll"
)

// taken gives the first n values that an iterator tells, by leaving it early;
// fewer, if it ends.
func taken(t *testing.T, all iter.Seq2[int, api.Rat], n int) []api.Rat {
	t.Helper()
	var out []api.Rat
	if n == 0 {
		return out
	}
	for k, v := range all {
		if k != len(out) {
			t.Fatalf("P12.2: %d comes behind %d", k, len(out)-1)
		}
		out = append(out, v)
		if len(out) == n {
			break
		}
	}
	return out
}

// Left early at each place, within the window and behind it, and gone over again.
func TestLeftEarly(t *testing.T) {
	for _, c := range plainPairs() {
		s := define(t, c.a, c.win)
		want := expectTerms(t, s, 50)
		all := unroll.All(s)
		for _, n := range []int{1, 2, 0, len(c.win), 50, 3, len(c.win) + 1, 49, 50} {
			if got := taken(t, all, n); len(got) != n || n > 0 && !reflect.DeepEqual(got, want[:n]) {
				t.Errorf("P12.2: All(%s), left after %d: %v", modelOf(s), n, bigRats(got))
			}
		}
	}
}

// Once left, it is not asked again.
func TestNotAskedAgain(t *testing.T) {
	for _, c := range plainPairs() {
		for _, n := range []int{1, len(c.win), len(c.win) + 1, len(c.win) + 5} {
			asked := 0
			unroll.All(define(t, c.a, c.win))(func(k int, v api.Rat) bool {
				asked++
				return asked < n
			})
			if asked != max(n, 1) {
				t.Errorf("P12.2: left after %d, it was asked %d times", n, asked)
			}
		}
	}
}

func TestTwiceToTheEnd(t *testing.T) {
	long := define(t, api.Op{p(5), p(-3), {bitsOf(2000)}}, values(1, 1))
	for _, s := range []*seq.Seq{nil, fibonacci(t), long, seq.Const(api.Rat{Num: bitsOf(50000), Den: limbs.Of(3)}), seq.Poly(append(make(api.Poly, 400), limbs.Of(1)))} {
		all := unroll.All(s)
		first, second := taken(t, all, -1), taken(t, all, -1)
		if len(first) != modelOf(s).count() || !reflect.DeepEqual(first, second) {
			t.Errorf("P12.2: All(%s) ends at %d, then at %d", modelOf(s), len(first), len(second))
		}
	}
}

// One range within another, of one iterator and of two.
func TestNested(t *testing.T) {
	s := define(t, api.Op{p(1, 1), p(-3, -2), p(2, 1)}, values(0, 1))
	want := expectTerms(t, s, 12)
	all := unroll.All(s)
	for k, v := range all {
		if !isRat(v, bigRat(want[k])) {
			t.Fatalf("P12.2: outside, at %d: %v", k, v)
		}
		for _, inner := range []iter.Seq2[int, api.Rat]{all, unroll.All(s)} {
			if got := taken(t, inner, k); k > 0 && !reflect.DeepEqual(got, want[:k]) {
				t.Fatalf("P12.2: inside, up to %d: %v", k, bigRats(got))
			}
		}
		if k == 11 {
			break
		}
	}
}

func TestNeverNil(t *testing.T) {
	for _, s := range []*seq.Seq{nil, {}, fibonacci(t), seq.Const(api.Rat{Num: bitsOf(1 << 21), Den: limbs.Of(1)})} {
		if unroll.All(s) == nil {
			t.Errorf("P0.7: All gives nil")
		}
	}
	for range unroll.All(seq.Const(api.Rat{Num: bitsOf(1 << 21), Den: limbs.Of(1)})) {
		t.Errorf("P12.2: All goes over a value that Term refuses")
	}
}
