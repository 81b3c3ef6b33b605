package convert_test

import (
	"fmt"
	"math"
	"math/rand"
	"sort"
	"testing"

	"ashlar/api"
	"ashlar/convert"
	"ashlar/gauge"
	"ashlar/held"
	"ashlar/limbs"
	"ashlar/ore"
	"ashlar/rat"
	"ashlar/seq"
	"ashlar/unroll"
)

// lastOf gives the greatest index of a value in the document's sum, -1 of none.
func lastOf(a bigOp, n int) int {
	last := -1
	for j, p := range a {
		for k, c := range p {
			if c.Sign() != 0 && n >= k {
				last = max(last, n-k+j)
			}
		}
	}
	return last
}

// expectCoeff holds a coefficient against the document's sum, or looks for the
// refusal.
func expectCoeff(t *testing.T, a api.Op, s *seq.Seq, n int) api.Errno {
	t.Helper()
	op, m := opToBig(a), modelOf(s)
	got, e := convert.Coeff(a, s, n)
	want := api.OK
	last := lastOf(op, n)
	switch {
	case n < 0:
		want = api.ErrArg
	case last >= 0:
		_, want = unroll.Term(s, last)
	}
	if e != want {
		t.Errorf("P16.3: %v on (%s), at %d: %d, not %d", op, m, n, e, want)
	}
	if limbs.Sign(got.Den) <= 0 || e != api.OK && limbs.Sign(got.Num) != 0 {
		t.Errorf("P16.4: %v on (%s), at %d: %v beside the error %d", op, m, n, got, e)
	}
	if e != api.OK || want != api.OK {
		return e
	}
	v := op.coefficient(n, m.values(last+1))
	if bigRat(got).Cmp(v) != 0 || rat.Bits(got) != limbs.Bits(got.Num)+limbs.Bits(got.Den) {
		t.Errorf("P16.3: %v on (%s), at %d: %s, not %s", op, m, n, rat.Text(got), v)
	}
	return e
}

func TestExamplesOfCoeff(t *testing.T) {
	fib, ones := fibonacci(t), seq.Const(over(1, 1))
	for i, c := range []struct {
		a    api.Op
		s    *seq.Seq
		n    int
		want string
	}{
		{api.Op{p(0, 2), p(3)}, fib, 4, "79"}, {api.Op{p(1)}, fib, 10, "55"}, {api.Op{nil, p(1)}, fib, 0, "1"}, {api.Op{nil, p(1)}, fib, 4, "25"},
		{api.Op{p(0, 1)}, fib, 0, "0"}, {api.Op{p(0, 1)}, ones, 0, "0"}, {api.Op{p(0, 1)}, ones, 1, "1"}, {api.Op{p(0, 0, 0, 5)}, ones, 2, "0"}, {api.Op{p(0, 0, 0, 5)}, ones, 3, "5"},
		{api.Op{nil, nil, p(1)}, ones, 3, "20"}, {api.Op{nil, p(0, 1)}, ones, 0, "0"}, {api.Op{nil, p(0, 1)}, ones, 7, "7"}, {api.Op{p(1), p(-1, 1)}, ones, 5, "0"},
		{api.Op{p(1), p(1)}, inverses(t), 3, "1/3"}, {nil, fib, 9, "0"}, {api.Op{p(1), p(7, 1)}, nil, 3, "0"}, {api.Op{p(-1), p(1)}, inverses(t), 30, "0"},
	} {
		if v, e := convert.Coeff(c.a, c.s, c.n); e != api.OK || rat.Text(v) != c.want {
			t.Errorf("P16.3: example %d: %s, %d, not %s", i, rat.Text(v), e, c.want)
		}
		expectCoeff(t, padded(c.a), c.s, c.n)
	}
}

// someOps are operators of Diff, with zero entries between, and with powers of x
// that are greater than those of the series at first.
func someOps() []api.Op {
	return []api.Op{
		nil, {nil, zeros()}, {p(1)}, {p(0, 1)}, {p(0, 0, 0, -4)}, {nil, p(1)}, {nil, nil, nil, p(1)}, {nil, p(0, 1)}, {nil, nil, p(0, 0, 1)},
		{p(-1), p(1)}, {p(1, 0, -3), nil, p(2, 5), p(0, 0, 0, 1)}, {p(0, 0, 2), nil, nil, p(0, 0, 0, 0, 0, -1)}, {nil, p(0, 0, 0, 0, 3), nil, nil, p(1)},
		{append(make(api.Poly, 12), limbs.Of(1)), p(-1, 1)}, append(make(api.Op, 12), p(0, 0, 1)), {{bitsOf(99), limbs.Neg(bitsOf(77))}, {limbs.Of(-3), {}, bitsOf(120)}},
		// xD - 2 and such: what stands at a power may add up to 0.
		{p(-2), p(0, 1)}, {p(6), p(0, -4), p(0, 0, 1)}, padded(api.Op{p(1, 0, -3), nil, p(2, 5)}),
	}
}

func TestCoeff(t *testing.T) {
	all := []*seq.Seq{nil, {}, seq.Const(over(3, 7)), seq.Poly(p(1, 0, 2)), seq.Poly(nil), fibonacci(t), factorials(t), inverses(t)}
	for i, c := range append(plainPairs(), pairsOfNoOrder()...) {
		all = append(all, c.longer(i%4).define(t))
	}
	for _, s := range all {
		for _, a := range someOps() {
			for _, n := range []int{-1, 0, 1, 2, 3, 4, 5, 11, 12, 13, 25} {
				expectCoeff(t, a, s, n)
			}
		}
	}
}

func TestCoeffOfRandomOperators(t *testing.T) {
	d := rand.New(rand.NewSource(164))
	for i := range 3000 {
		c := randomPair(d, i%4)
		if e := expectCoeff(t, randomOp(d, 5, 6), c.define(t), d.Intn(30)); e != api.OK {
			t.Errorf("P16.3: refused: %d", e)
		}
	}
}

// A product's coefficient is that of the one factor on the other's series, as far as
// this is a polynomial: on polynomials the operator is ore's.
func TestCoeffOnPolynomials(t *testing.T) {
	rule, _ := ore.New(api.Diff, api.Int{})
	f := p(3, 0, -1, 5)
	// Its coefficients are a sequence: all others are 0.
	s := pair{api.Op{at(0, 1, 2, 3)}, values(3, 0, -1, 5)}.define(t)
	for _, a := range someOps() {
		want, e := rule.Apply(a, f)
		if e != api.OK {
			t.Fatalf("Apply: %d", e)
		}
		for n := range 20 {
			v, e := convert.Coeff(a, s, n)
			c := api.Int{}
			if n < len(want) {
				c = want[n]
			}
			if whole, ok := rat.Whole(v); e != api.OK || !ok || limbs.Cmp(whole, c) != 0 {
				t.Errorf("P16.3: %v at %d: %s, %d, not %s", opToBig(a), n, rat.Text(v), e, limbs.Text(c))
			}
		}
	}
}

// n below 0 comes ahead of all else.
func TestCoeffBelowZero(t *testing.T) {
	long := held.New(append(make(api.Op, 3000), p(1)), zeroValues(3000))
	for _, s := range []*seq.Seq{nil, fibonacci(t), long} {
		for _, a := range append(someOps(), append(make(api.Op, 5000), p(1))) {
			for _, n := range []int{-1, -2, -5000, math.MinInt} {
				if v, e := convert.Coeff(a, s, n); e != api.ErrArg || limbs.Sign(v.Num) != 0 || limbs.Cmp(v.Den, limbs.Of(1)) != 0 {
					t.Errorf("P16.3: at %d: %s, %d", n, rat.Text(v), e)
				}
			}
		}
	}
}

func zeroValues(n int) []api.Rat {
	out := make([]api.Rat, n)
	for i := range out {
		out[i] = over(0, 1)
	}
	return out
}

// The greatest index that is used counts, and no other: coefficients that are 0,
// and powers of x above n, use none.
func TestIndicesOfCoeff(t *testing.T) {
	ones := seq.Const(over(1, 1))
	far := func(j int, q api.Poly) api.Op { return append(make(api.Op, j), q) }
	for i, c := range []struct {
		a    api.Op
		n    int
		want api.Errno
		text string
	}{
		{api.Op{p(1)}, 4096, api.OK, "1"}, {api.Op{p(1)}, 4097, api.ErrIndex, "0"}, {api.Op{p(1), p(1)}, 4095, api.OK, "4097"}, {api.Op{p(1), p(1)}, 4096, api.ErrIndex, "0"},
		{api.Op{nil, p(0, 1)}, 4096, api.OK, "4096"}, {api.Op{p(0, 2)}, 4097, api.OK, "2"}, {api.Op{p(0, 2)}, 4098, api.ErrIndex, "0"}, {api.Op{p(1, 1), zeros()}, 4096, api.OK, "2"},
		{api.Op{p(0, 0, 1), p(0, 0, 1)}, 4097, api.OK, "4097"}, {api.Op{p(0, 0, 1), p(0, 0, 1)}, 4098, api.ErrIndex, "0"}, {api.Op{p(0, 0, 1), {{}, {}, limbs.Of(1)}, {{}, zeros()[5]}}, 4097, api.OK, "4097"},
		{far(4096, p(1)), 0, api.OK, ""}, {far(4097, p(1)), 0, api.ErrIndex, "0"}, {far(4097, p(0, 1)), 0, api.OK, "0"}, {far(4098, p(0, 1)), 1, api.ErrIndex, "0"}, {far(4096, p(0, 1)), 1, api.OK, ""}, {far(9000, p(0, 0, 1)), 1, api.OK, "0"},
		{nil, 4097, api.OK, "0"}, {nil, math.MaxInt, api.OK, "0"}, {api.Op{zeros(), nil}, math.MaxInt, api.OK, "0"}, {api.Op{p(1)}, math.MaxInt, api.ErrIndex, "0"}, {api.Op{nil, p(1)}, math.MaxInt, api.ErrIndex, "0"},
		{far(300, p(0, 0, 1)), math.MaxInt - 100, api.ErrIndex, "0"}, {far(8000, p(1)), math.MaxInt, api.ErrIndex, "0"}, {api.Op{power(9000)}, 9000, api.OK, "1"}, {api.Op{power(9000)}, 8999, api.OK, "0"},
		{api.Op{power(9000), nil, power(8998)}, 9000, api.OK, "13"}, {api.Op{power(9000)}, 9000 + 4096, api.OK, "1"}, {api.Op{power(9000)}, 9000 + 4097, api.ErrIndex, "0"},
	} {
		v, e := convert.Coeff(c.a, ones, c.n)
		if e != c.want || c.text != "" && rat.Text(v) != c.text || limbs.Sign(v.Den) == 0 {
			t.Errorf("P16.3: %d: at %d: %s, %d, not %s, %d", i, c.n, rat.Text(v), e, c.text, c.want)
		}
		if c.text == "" {
			if want := factorial(4096).String(); rat.Text(v) != want {
				t.Errorf("P16.3: %d: not 4,096!", i)
			}
		}
	}
}

// Term's ErrBig counts just where the greatest index has it: by the window's bits,
// and by the operator's.
func TestGreatCoeffs(t *testing.T) {
	long := seq.Const(api.Rat{Num: bitsOf(2000), Den: limbs.Add(bitsOf(3000), limbs.Of(1))})
	wide := pair{opOf(1, 20, 1000), values(5)}.define(t)
	for _, s := range []*seq.Seq{long, wide} {
		// The least index that is refused.
		first := sort.Search(4096, func(n int) bool { return gauge.Term(s.Op(), s.Window(), n) > api.MaxBits })
		if _, e := unroll.Term(s, first); first < 100 || e != api.ErrBig {
			t.Fatalf("the test: %d, %d", first, e)
		}
		for _, c := range []struct {
			a  api.Op
			by int
		}{{api.Op{p(1)}, 0}, {api.Op{nil, p(1)}, 1}, {api.Op{p(0, 1)}, -1}, {api.Op{p(0, 0, 1), p(0, 0, 0, 1), nil}, -2}, {api.Op{p(5), p(0, 0, 0, 1), p(0, 1)}, 1}} {
			if e := expectCoeff(t, c.a, s, first-c.by); e != api.ErrBig {
				t.Errorf("P16.3: %v at %d: %d", opToBig(c.a), first-c.by, e)
			}
			if s == wide && c.by < 1 {
				continue // To tell such values takes long.
			}
			if e := expectCoeff(t, c.a, s, first-c.by-1); e != api.OK {
				t.Errorf("P16.3: %v at %d: %d", opToBig(c.a), first-c.by-1, e)
			}
		}
	}
	huge := seq.Const(api.Rat{Num: bitsOf(1 << 20), Den: limbs.Of(1)})
	for _, c := range []struct {
		a    api.Op
		n    int
		want api.Errno
	}{{api.Op{p(1)}, 0, api.ErrBig}, {api.Op{p(0, 1)}, 0, api.OK}, {nil, 0, api.OK}, {api.Op{nil, p(0, 1)}, 0, api.OK}, {api.Op{nil, p(1)}, 0, api.ErrBig}, {api.Op{nil, nil, p(0, 0, 1)}, 1, api.OK}} {
		if v, e := convert.Coeff(c.a, huge, c.n); e != c.want || limbs.Sign(v.Num) != 0 {
			t.Errorf("P16.3: %v at %d: %d, not %d", opToBig(c.a), c.n, e, c.want)
		}
	}
}

// Values behind a long window, and sums that take some of both.
func TestCoeffOfLongWindows(t *testing.T) {
	for _, length := range []int{2, 3, 10, 64, 65, 300} {
		s := pair{api.Op{p(-1), p(-1), p(2)}, values(0, 1)}.longer(length - 2).define(t)
		for _, n := range []int{0, length - 3, length - 2, length - 1, length, length + 1, length + 40} {
			for _, a := range someOps() {
				expectCoeff(t, a, s, n)
			}
		}
	}
}

// One coefficient is the document's, whatever stands beside it.
func TestOneCoefficient(t *testing.T) {
	s := fibonacci(t)
	for j := range 7 {
		for k := range 7 {
			a := append(make(api.Op, j), append(make(api.Poly, k), limbs.Of(-3)))
			for n := range 12 {
				if e := expectCoeff(t, a, s, n); e != api.OK {
					t.Error(fmt.Sprint(j, k, n, e))
				}
			}
		}
	}
}
