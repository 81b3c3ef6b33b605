package unroll_test

import (
	"math"
	"math/big"
	"math/bits"
	"reflect"
	"testing"

	"ashlar/api"
	"ashlar/limbs"
	"ashlar/seq"
	"ashlar/unroll"
)

func TestIndices(t *testing.T) {
	for _, s := range []*seq.Seq{nil, fibonacci(t), factorials(t), seq.Const(over(1, 2)), seq.Poly(p(0, 1)), define(t, api.Op{at(3, 1)}, values(0, 4, 0, 5))} {
		first, e := unroll.Terms(s, 2)
		if e != api.OK {
			t.Fatalf("P12.1: Terms(.., 2): %d", e)
		}
		for _, n := range []int{math.MinInt, -4097, -2, -1, 4097, 4098, math.MaxInt - 1, math.MaxInt} {
			if v, e := unroll.Term(s, n); e != api.ErrIndex || !isRat(v, new(big.Rat)) {
				t.Errorf("P12.1: Term(%s, %d): %v, %d", modelOf(s), n, v, e)
			}
			if vs, e := unroll.Terms(s, n); e != api.ErrIndex || len(vs) != 0 {
				t.Errorf("P12.1: Terms(%s, %d): %v, %d", modelOf(s), n, vs, e)
			}
		}
		expectTerm(t, s, 0, bigRat(first[0]))
		expectTerm(t, s, 1, bigRat(first[1]))
		for _, n := range []int{0, 1, 2} {
			if vs, e := unroll.Terms(s, n); e != api.OK || len(vs) != n {
				t.Errorf("P12.1: Terms(%s, %d): %v, %d", modelOf(s), n, vs, e)
			}
		}
	}
}

// The last index that is told, by other roads.
func TestTheGreatestIndex(t *testing.T) {
	a, b := big.NewInt(0), big.NewInt(1)
	for range 4095 {
		a, b = b, new(big.Int).Add(a, b)
	}
	// a is at 4,095 here.
	for _, c := range []struct {
		s        *seq.Seq
		but, at  *big.Rat
		whatever string
	}{
		{fibonacci(t), new(big.Rat).SetInt(a), new(big.Rat).SetInt(b), "Fibonacci"},
		{factorials(t), new(big.Rat).SetInt(new(big.Int).MulRange(1, 4095)), new(big.Rat).SetInt(new(big.Int).MulRange(1, 4096)), "n!"},
		{seq.Poly(p(7, 0, 1)), big.NewRat(4095*4095+7, 1), big.NewRat(4096*4096+7, 1), "x^2 + 7"},
		{seq.Const(over(-1, 3)), big.NewRat(-1, 3), big.NewRat(-1, 3), "-1/3"},
	} {
		expectTerm(t, c.s, 4095, c.but)
		expectTerm(t, c.s, 4096, c.at)
		vs, e := unroll.Terms(c.s, 4096)
		if e != api.OK || len(vs) != 4096 || !isRat(vs[4095], c.but) {
			t.Fatalf("P12.1: Terms(%s, 4096): %d, %d values", c.whatever, e, len(vs))
		}
		count := 0
		for k, v := range unroll.All(c.s) {
			if k != count || k < 4096 && !isRat(v, bigRat(vs[k])) || k == 4096 && !isRat(v, c.at) {
				t.Fatalf("P12.2: All(%s): at %d: %v", c.whatever, k, v)
			}
			count++
		}
		if count != 4097 {
			t.Errorf("P12.2: All(%s) ends at %d", c.whatever, count)
		}
	}
}

// Windows of 4,096 values: only one index stands behind them.
func TestTheLongestWindow(t *testing.T) {
	win := make([]api.Rat, 4096)
	for i := range win {
		win[i] = over(1, 3)
	}
	s := define(t, api.Op{p(-1), p(1)}, win)
	for _, n := range []int{0, 4095, 4096} {
		expectTerm(t, s, n, big.NewRat(1, 3))
	}
	expectTerm(t, s, 4097, nil)
	expectTerms(t, s, 4096)
	free := define(t, api.Op{p(-4), at(4094)}, append(make([]api.Rat, 4095), over(5, 1)))
	expectTerm(t, free, 4095, big.NewRat(5, 1))
	expectTerm(t, free, 4096, big.NewRat(20, 1))
	if vs := expectTerms(t, free, 4096); !isRat(vs[4095], big.NewRat(5, 1)) {
		t.Errorf("P12.1: the last value of a window: %v", vs[4095])
	}
}

// expectEnd looks at all calls just where they begin to refuse.
func expectEnd(t *testing.T, s *seq.Seq) {
	t.Helper()
	m := modelOf(s)
	end := m.count()
	vs := []api.Rat{}
	for k, v := range unroll.All(s) {
		if k != len(vs) {
			t.Fatalf("P12.2: All(%s): %d behind %d", m, k, len(vs)-1)
		}
		vs = append(vs, v)
	}
	if len(vs) != end {
		t.Errorf("P12.2: All(%s) ends at %d, not at %d", m, len(vs), end)
	}
	m.expectList(t, vs, 1+len(vs)/8)
	for n := max(end-2, 0); n < end+2; n++ {
		if n < len(vs) {
			expectTerm(t, s, n, bigRat(vs[n]))
		} else {
			expectTerm(t, s, n, nil)
		}
		got, e := unroll.Terms(s, n)
		if want := m.refusal(n); e != want || e == api.OK && !reflect.DeepEqual(got, vs[:n:n]) || e != api.OK && len(got) != 0 {
			t.Errorf("P12.1: Terms(%s, %d): error %d, not %d, or other values than All's", m, n, e, want)
		}
		for _, a := range []api.Op{nil, {p(0, 1)}, {p(1)}} {
			if _, e := unroll.Holds(s, a, n); e != m.refusal(n) {
				t.Errorf("P12.3: Holds(%s, %v, %d): error %d, not %d", m, opToBig(a), n, e, m.refusal(n))
			}
		}
		if _, e := unroll.Holds(s, api.Op{nil, nil, p(1)}, n); e != m.refusal(n+2) {
			t.Errorf("P12.3: Holds(%s, S^2, %d): error %d, not %d", m, n, e, m.refusal(n+2))
		}
	}
}

// Estimates that are 2^20 just, by the operator's bits: there n is told, and with
// a bit more, or at n + 1, it is not.
func TestBitsOfOperatorsAtTheLimit(t *testing.T) {
	for _, c := range []struct{ r, d, n int }{
		{0, 0, 1}, {0, 0, 3}, {0, 9, 7}, {1, 0, 3}, {1, 3, 3}, {1, 2, 7}, {1, 0, 1023}, {3, 0, 7}, {3, 7, 31}, {7, 2, 15}, {15, 0, 31}, {63, 0, 127}, {1, 30, 255}, {0, 1, 4095}, {3, 0, 4095}, {1, 2, 2047},
	} {
		k := (1<<20)/((c.n+1)*(c.r+1)) - (c.d+1)*(bits.Len(uint(c.n))+1) - 8
		for more, want := range []api.Errno{api.OK, api.OK, api.ErrBig} {
			s := define(t, opOf(c.r, c.d, k-1+more), make([]api.Rat, c.r))
			if _, e := unroll.Term(s, c.n); e != want {
				t.Errorf("P12.1: order %d, degree %d, %d bits, at %d: %d, not %d", c.r, c.d, k-1+more, c.n, e, want)
			}
			if vs, e := unroll.Terms(s, c.n); e != want || len(vs) != 0 && e != api.OK {
				t.Errorf("P12.1: order %d, degree %d, %d bits, up to %d: %d, not %d", c.r, c.d, k-1+more, c.n, e, want)
			}
			expectEnd(t, s)
		}
	}
}

// The same by the window's bits.
func TestBitsOfWindowsAtTheLimit(t *testing.T) {
	for _, n := range []int{0, 1, 3, 7, 15, 63, 255, 1023} {
		w := (1<<20)/(n+1) - 1
		for more, want := range []api.Errno{api.OK, api.OK, api.ErrBig} {
			bits := w - 1 + more
			for i, v := range []api.Rat{{Num: bitsOf(bits - 1), Den: limbs.Of(1)}, {Num: limbs.Of(-1), Den: bitsOf(bits - 1)}} {
				s := seq.Const(v)
				if _, e := unroll.Term(s, n); e != want {
					t.Errorf("P12.1, %d: a value of %d bits, at %d: %d, not %d", i, bits, n, e, want)
				}
				if _, e := unroll.Terms(s, n); e != want {
					t.Errorf("P12.1, %d: a value of %d bits, up to %d: %d, not %d", i, bits, n, e, want)
				}
				if i == 0 {
					expectEnd(t, s)
				}
			}
		}
	}
}

// What is within the window is refused, too, where the estimate is above MaxBits.
func TestRefusedWithinTheWindow(t *testing.T) {
	steep := seq.Poly(append(make(api.Poly, 60), limbs.Of(1)))
	far := seq.Poly(append(make(api.Poly, 1200), limbs.Of(1)))
	wide := seq.Const(api.Rat{Num: bitsOf(1 << 20), Den: limbs.Of(1)})
	for _, c := range []struct {
		s   *seq.Seq
		end int
	}{{steep, 225}, {far, 0}, {wide, 0}, {seq.Poly(append(make(api.Poly, 400), limbs.Of(1))), 6}} {
		if end := modelOf(c.s).count(); end != c.end {
			t.Errorf("the sequence of order %d ends at %d", c.s.Order(), end)
		}
		expectEnd(t, c.s)
	}
}

// Sequences whose values are long just at the limit.
func TestLongValuesAtTheLimit(t *testing.T) {
	third := []api.Rat{over(1, 3)}
	for _, c := range []pair{
		{api.Op{p(-1, -2, -3, -4, -5, -6, -7, -8, -9), append(make(api.Poly, 90), limbs.Of(5))}, values(0, 1)}, {api.Op{{bitsOf(31000)}, {limbs.Neg(bitsOf(30000)), limbs.Of(3)}}, third},
		{api.Op{p(1, 1), p(-3, -2), {bitsOf(15000)}}, values(1, 1)}, {append(make(api.Op, 90), p(2, 3, 4, 5), p(7)), append(make([]api.Rat, 90), over(2, 5))},
		{api.Op{p(1), p(5), append(make(api.Poly, 255), bitsOf(9000))}, append(make([]api.Rat, 2), over(1, 9))},
	} {
		expectEnd(t, define(t, c.a, c.win))
	}
}
