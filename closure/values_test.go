package closure_test

import (
	"fmt"
	"math/big"
	"math/rand"
	"strings"
	"testing"

	"ashlar/api"
	"ashlar/closure"
	"ashlar/limbs"
	"ashlar/rat"
	"ashlar/seq"
	"ashlar/upoly"
)

// made takes a result that is not refused.
func made(t *testing.T) func(s *seq.Seq, e api.Errno) *seq.Seq {
	return func(s *seq.Seq, e api.Errno) *seq.Seq {
		t.Helper()
		if e != api.OK {
			t.Fatalf("P15.3: refused: %d", e)
		}
		return s
	}
}

func texts(s *seq.Seq, n int) []string {
	var out []string
	for _, v := range modelOf(s).values(n) {
		out = append(out, rat.Text(fromBigRat(v)))
	}
	return out
}

func TestExamples(t *testing.T) {
	one, fib := seq.Const(over(1, 1)), fibonacci(t)
	of := made(t)
	for i, c := range []struct {
		s    *seq.Seq
		want string
	}{
		{of(closure.Sum(fib, one)), "1 2 2 3 4 6 9"},
		{of(closure.Partial(fib)), "0 1 2 4 7 12"}, {of(closure.Product(fib, fib)), "0 1 1 4 9 25"},
		{of(closure.Part(fib, 2, 1)), "1 2 5 13"}, {of(closure.Spread(one, 2, 1)), "0 1 0 1"},
		{of(closure.Interlace(one, seq.Poly(p(0, 1)))), "1 0 1 1 1 2 1 3"},
		{of(closure.Scale(over(1, 2), fib)), "0 1/2 1/2 1 3/2 5/2"}, {of(closure.Next(fib)), "1 1 2 3 5"},
	} {
		if got := texts(c.s, len(strings.Fields(c.want))); strings.Join(got, " ") != c.want {
			t.Errorf("P15.1: example %d: %v, not %s", i, got, c.want)
		}
	}
}

// Sequences of all kinds, with windows as long as they need be, and longer.
func TestOneSequence(t *testing.T) {
	for _, c := range append(plainPairs(), pairsOfNoOrder()...) {
		for _, w := range ofOne() {
			w.expect(t, c.define(t), nil, 30)
			w.expect(t, c.longer(5).define(t), nil, 20)
		}
	}
}

func TestTwoSequences(t *testing.T) {
	all := append(plainPairs(), pairsOfNoOrder()...)
	for i, c := range all {
		for j, d := range all {
			for k, w := range ofTwo() {
				// All pairs of small orders, and of the others some.
				if len(c.a)+len(d.a) <= 5 || (i+j+k)%5 == 0 {
					w.expect(t, c.define(t), d.define(t), 24)
				}
			}
		}
	}
}

// Leading entries with natural roots, last ones with roots, values that are not
// whole, windows longer than they need be: of the orders 0 to 3, what is not too
// great.
func TestRandomSequences(t *testing.T) {
	d := rand.New(rand.NewSource(15))
	told := map[string]int{}
	for range 500 {
		a, b := randomPair(d, d.Intn(4)).define(t), randomPair(d, d.Intn(3)).define(t)
		for _, w := range append(ofTwo(), ofOne()...) {
			told[w.name+fmt.Sprint(w.expect(t, a, b, 24))]++
		}
	}
	for _, w := range append(ofTwo(), ofOne()...) {
		if told[w.name+"0"] < 60 {
			t.Errorf("%s was told too seldom: %v", w.name, told)
		}
	}
}

// Whatever k and j are.
func TestAllParts(t *testing.T) {
	fib, holes := fibonacci(t), filled(api.Op{p(-5, 1), at(0, 3)}, 5, values(5, 2, 3, 4)).define(t)
	for k := 1; k <= 16; k++ {
		for j := range k {
			for _, s := range []*seq.Seq{fib, holes, factorials(t), nil, seq.Const(over(2, 3)), filled(api.Op{at(7, 4, 2)}, 8, values(1, 2, 3)).define(t)} {
				parting(k, j).expectTold(t, s, nil, 12)
				spreading(k, j).expectTold(t, s, nil, 5*k)
			}
		}
	}
}

// All is 0, or the same everywhere; and a polynomial's values.
func TestPlainSequences(t *testing.T) {
	zero := pair{api.Op{p(-1), p(-1), p(1)}, values(0, 0)}.define(t)
	all := []*seq.Seq{nil, {}, zero, seq.Const(over(0, 1)), seq.Const(over(1, 1)), seq.Const(over(-7, 3)), seq.Poly(nil), seq.Poly(p(4)), seq.Poly(p(0, 1)), seq.Poly(p(-2, 0, 1)), seq.Poly(p(1, 2, 3, 4)), fibonacci(t)}
	for _, a := range all {
		for _, b := range all {
			for _, w := range ofTwo() {
				w.expect(t, a, b, 30)
			}
		}
		for _, w := range ofOne() {
			w.expectTold(t, a, nil, 30)
		}
	}
}

func TestItself(t *testing.T) {
	for _, c := range append(plainPairs(), pairsOfNoOrder()...) {
		s := c.define(t)
		for _, w := range ofTwo() {
			w.expect(t, s, s, 24)
		}
		// What is least for both is least for one: the order does not grow.
		if twice, e := closure.Sum(s, s); e == api.OK && twice.Order() > s.Order() {
			t.Errorf("P15.1: Sum of %s and itself: the order %d", modelOf(s), twice.Order())
		}
	}
}

// A sequence with what undoes it: all is 0, or 1, or what it was.
func TestUndone(t *testing.T) {
	of := made(t)
	for _, c := range append(plainPairs(), pairsOfNoOrder()...) {
		s := c.define(t)
		if closure.Cost(1, s, s, 0) > api.MaxBits {
			continue
		}
		less := of(closure.Scale(over(-1, 1), s))
		none := of(closure.Sum(s, less))
		for n, v := range modelOf(none).values(none.Len() + 20) {
			if v.Sign() != 0 {
				t.Errorf("P15.1: %s and what undoes it: %s at %d", modelOf(s), v, n)
				break
			}
		}
		again, e := closure.Scale(over(-1, 1), less)
		if e != api.OK || fmt.Sprint(texts(again, 30)) != fmt.Sprint(texts(s, 30)) {
			t.Errorf("P15.1: %s, undone twice: %d", modelOf(s), e)
		}
	}
	for i, v := range modelOf(of(closure.Product(factorials(t), inverses(t)))).values(40) {
		if v.Cmp(big.NewRat(1, 1)) != 0 {
			t.Errorf("P15.1: n! times 1 over n!: %s at %d", v, i)
		}
	}
}

// Results are taken on: parts put together again, sums of differences, and products
// and sums that are the same by other roads.
func TestResultsOfResults(t *testing.T) {
	of := made(t)
	holes := filled(api.Op{p(1), at(0, 2)}, 4, values(0, -3, 8)).define(t)
	for _, s := range []*seq.Seq{fibonacci(t), factorials(t), seq.Poly(p(0, 0, 1)), holes, nil} {
		whole := of(closure.Interlace(of(closure.Part(s, 2, 0)), of(closure.Part(s, 2, 1))))
		if fmt.Sprint(texts(whole, 40)) != fmt.Sprint(texts(s, 40)) {
			t.Errorf("P15.1: the parts of %s, in turns: %s", modelOf(s), modelOf(whole))
		}
		spread := of(closure.Part(of(closure.Spread(s, 3, 1)), 3, 1))
		if fmt.Sprint(texts(spread, 40)) != fmt.Sprint(texts(s, 40)) {
			t.Errorf("P15.1: %s, spread and parted: %s", modelOf(s), modelOf(spread))
		}
		differences := of(closure.Sum(of(closure.Next(s)), of(closure.Scale(over(-1, 1), s))))
		sums := of(closure.Partial(differences))
		first := seq.Const(over(modelOf(s).values(1)[0].Num().Int64(), 1))
		if back := of(closure.Sum(sums, first)); fmt.Sprint(texts(back, 30)) != fmt.Sprint(texts(s, 31)[1:]) {
			t.Errorf("P15.1: %s, by its differences: %s", modelOf(s), modelOf(back))
		}
	}
}

// Operators and windows in any form say the same.
func TestForms(t *testing.T) {
	for _, c := range []pair{{api.Op{p(1, 1), p(-3, -2), p(2, 1)}, values(0, 1)}, {api.Op{p(0, -1), at(2)}, values(1, 0, 0, 7)}, {api.Op{at(3, 1)}, values(0, 4, 0, 5)}} {
		s, other := c.define(t), pair{padded(c.a), raised(c.win)}.define(t)
		for _, w := range append(ofTwo(), ofOne()...) {
			first, e := w.ask(s, s)
			second, f := w.ask(other, other)
			if e != f || modelOf(first).String() != modelOf(second).String() {
				t.Errorf("P15.5: %s of %s: %d, %d", w.name, modelOf(s), e, f)
			}
		}
	}
	// A number in any form scales.
	for i, v := range append(raised(values(0, 3, 9, 18, -5)), api.Rat{Num: limbs.Of(7)}, api.Rat{}, api.Rat{Num: wide(limbs.Of(-4)), Den: wide(limbs.Of(-6))}) {
		if e := scaling(v).expect(t, fibonacci(t), nil, 20); e != api.OK {
			t.Errorf("P15.1: Scale by the number %d: %d", i, e)
		}
	}
}

// Entries and values of many bits, also below 0, behind leading entries that make
// long Dens.
func TestLongNumbers(t *testing.T) {
	d := rand.New(rand.NewSource(16))
	number := func(words int) api.Int {
		out := api.Int{Neg: d.Intn(2) == 0}
		for range words {
			out.L = append(out.L, d.Uint32()|1)
		}
		return out
	}
	long := func(order, degree, words int) *seq.Seq {
		var c pair
		for range order + 1 {
			var q api.Poly
			for range degree + 1 {
				q = append(q, number(words))
			}
			c.a = append(c.a, q)
		}
		for range order {
			c.win = append(c.win, api.Rat{Num: number(5), Den: number(5)})
		}
		return c.define(t)
	}
	a, b, c := long(1, 1, 3), long(1, 2, 2), long(2, 0, 3)
	for _, w := range ofTwo() {
		w.expectTold(t, a, b, 16)
		w.expect(t, a, long(1, 0, 40), 16)
		w.expect(t, c, long(2, 0, 2), 12)
	}
	for _, w := range ofOne() {
		w.expectTold(t, b, nil, 16)
		w.expectTold(t, c, nil, 16)
	}
}

// What a nil sequence says, in either place: all zeros.
func TestNoSequence(t *testing.T) {
	of := made(t)
	for _, none := range []*seq.Seq{nil, {}} {
		for _, s := range []*seq.Seq{nil, fibonacci(t), filled(api.Op{at(3, 1)}, 5, values(4, 5)).define(t), filled(api.Op{p(1), at(0, 2)}, 4, values(0, -3, 8)).define(t)} {
			for _, w := range ofTwo() {
				w.expectTold(t, s, none, 30)
				w.expectTold(t, none, s, 30)
			}
		}
		for _, w := range ofOne() {
			w.expectTold(t, none, none, 30)
		}
		if s := of(closure.Sum(none, none)); s.Order() != 0 || upoly.Deg(s.Op()[0]) != 0 || s.Len() != 0 {
			t.Errorf("P15.5: Sum of none and none: %s", modelOf(s))
		}
	}
}
