package closure_test

import (
	"fmt"
	"math/rand"
	"slices"
	"testing"

	"ashlar/api"
	"ashlar/closure"
	"ashlar/rat"
	"ashlar/seq"
	"ashlar/upoly"
)

// point is 0 but at n, where it has this value.
func point(t *testing.T, n int, v api.Rat) *seq.Seq {
	t.Helper()
	return pair{api.Op{at(int64(n))}, append(make([]api.Rat, n), v)}.define(t)
}

// broken gives a sequence whose relations say something else at each singular
// number than its values: v is what is added there to what they would say, if
// they said anything.
func broken(t *testing.T, a api.Op, first []api.Rat, v api.Rat, singular ...int64) *seq.Seq {
	t.Helper()
	out := pair{a: slices.Clone(a)}
	plain := pair{a, first}
	r, last := len(a)-1, 0
	for i := range out.a {
		for _, n := range singular {
			out.a[i] = upoly.Mul(out.a[i], at(n))
			last = max(last, int(n))
		}
	}
	for k := range last + r + 1 {
		if k < r {
			out.win = append(out.win, first[k])
			continue
		}
		next := pair{plain.a, out.win}.forced()
		if slices.Contains(singular, int64(k-r)) {
			next = rat.Add(next, v)
		}
		out.win = append(out.win, next)
	}
	return out.define(t)
}

// forced gives the value that the last relation asks for, behind the window.
func (c pair) forced() api.Rat {
	m := model{op: opToBig(c.a), win: bigRats(c.win)}
	return fromBigRat(m.values(len(c.win) + 1)[len(c.win)])
}

// Values that no relation holds of: they stand in the window, and each number whose
// relation asks for one is singular, or holds.
func TestValuesThatNoRelationHolds(t *testing.T) {
	fib, inv := api.Op{p(-1), p(-1), p(1)}, api.Op{p(-1), p(1, 1)}
	var all []*seq.Seq
	for _, v := range []api.Rat{over(1, 1), over(-5, 3), over(0, 1)} {
		all = append(all,
			broken(t, fib, values(0, 1), v, 0), broken(t, fib, values(0, 1), v, 5), broken(t, fib, values(2, 1), v, 3, 4), broken(t, fib, values(2, 1), v, 1, 6, 6),
			broken(t, inv, values(1), v, 4), broken(t, inv, values(1), v, 0, 2), broken(t, api.Op{p(-1), p(1)}, values(7), v, 7), broken(t, api.Op{p(1)}, nil, v, 2),
			broken(t, api.Op{p(2, 1), nil, p(0, 3), p(-7, -1)}, values(1, 0, 3), v, 2), broken(t, api.Op{p(0, 1), p(-3), p(1)}, values(1, 1), v, 9),
		)
	}
	for _, a := range all {
		for _, b := range append(all[:10:10], fibonacci(t), inverses(t), nil) {
			for _, w := range ofTwo() {
				w.expect(t, a, b, 40)
			}
		}
		for _, w := range append(ofOne(), parting(5, 4), spreading(5, 2)) {
			w.expectTold(t, a, nil, 40)
		}
	}
}

// One point beside another sequence: all relations that ask for it fail, but for
// chance.
func TestPoints(t *testing.T) {
	of := made(t)
	for n := range 12 {
		s := point(t, n, over(3, 2))
		for _, c := range []struct {
			made *seq.Seq
			want []int
		}{
			{of(closure.Sum(fibonacci(t), s)), []int{n - 2, n - 1, n}}, {of(closure.Sum(s, seq.Const(over(1, 1)))), []int{n - 1, n}},
			{of(closure.Sum(s, point(t, n+4, over(1, 1)))), []int{n, n + 4}}, {of(closure.Sum(s, s)), []int{n}}, {of(closure.Sum(s, closureScale(t, s, -1))), nil},
			{of(closure.Partial(s)), []int{n - 1}}, {of(closure.Next(s)), []int{n - 1}}, {of(closure.Scale(over(2, 1), s)), []int{n}}, {of(closure.Scale(over(0, 1), s)), nil},
			{of(closure.Spread(s, 3, 2)), []int{3*n + 2}}, {of(closure.Part(s, 1, 0)), []int{n}}, {of(closure.Interlace(s, nil)), []int{2 * n}}, {of(closure.Interlace(nil, s)), []int{2*n + 1}},
			{of(closure.Product(s, seq.Const(over(5, 1)))), []int{n}}, {of(closure.Product(s, point(t, n+1, over(1, 1)))), nil},
		} {
			var want []int
			for _, m := range c.want {
				if m >= 0 {
					want = append(want, m)
				}
			}
			// No more are singular than must be: the window says all else by itself.
			if fmt.Sprint(c.made.Singular()) != fmt.Sprint(want) {
				t.Errorf("P15.2: of a point at %d: singular are %v, not %v: %s", n, c.made.Singular(), want, modelOf(c.made))
			}
		}
	}
}

func closureScale(t *testing.T, s *seq.Seq, by int64) *seq.Seq {
	t.Helper()
	out, e := closure.Scale(over(by, 1), s)
	if e != api.OK {
		t.Fatalf("P15.3: %d", e)
	}
	return out
}

// Operands that are singular far out: windows are as long as that asks for, and
// longer than unroll tells values, for some.
func TestFarOut(t *testing.T) {
	far := broken(t, api.Op{p(-1), p(-1), p(1)}, values(0, 1), over(1, 1), 300)
	for _, b := range []*seq.Seq{fibonacci(t), factorials(t), seq.Const(over(1, 3)), inverses(t)} {
		for _, w := range ofTwo() {
			w.expect(t, far, b, 320)
			w.expect(t, b, far, 320)
		}
	}
	for _, w := range append(ofOne(), parting(16, 3), spreading(12, 5)) {
		w.expectTold(t, far, nil, 320)
	}
}

// Numbers at which nothing but a common denominator is 0: the leading entry of a
// sum's operator is the difference of the values' ratios.
func TestApparentSingularities(t *testing.T) {
	d := rand.New(rand.NewSource(17))
	for range 60 {
		n, m := d.Int63n(15), d.Int63n(15)
		by := at(n, m)
		q := p(d.Int63n(9)-4, d.Int63n(5)-2, 1)
		a := pair{api.Op{upoly.Sub(nil, q), p(1)}, values(1)}.define(t)
		b := pair{api.Op{upoly.Sub(by, q), p(1)}, values(2)}.define(t) // The ratio of values is q - by.
		for _, w := range ofTwo() {
			w.expectTold(t, a, b, 40)
		}
		// Every other value hangs on none between, where the middle entry is 0.
		c := pair{api.Op{q, by, p(1)}, values(1, 1)}.define(t)
		for _, w := range []row{parting(2, 0), parting(2, 1), parting(3, 1)} {
			w.expectTold(t, c, nil, 30)
		}
	}
}
