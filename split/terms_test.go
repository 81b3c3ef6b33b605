package split_test

import (
	"math"
	"math/big"
	"math/bits"
	"math/rand"
	"reflect"
	"testing"

	"ashlar/api"
	"ashlar/limbs"
	"ashlar/rat"
	"ashlar/seq"
	"ashlar/split"
	"ashlar/unroll"
)

func TestTermExamples(t *testing.T) {
	if v, e := split.Term(fibonacci(t), 100); e != api.OK || rat.Text(v) != "354224848179261915075" {
		t.Errorf("P13.1: Fibonacci's number 100: %s, %d", rat.Text(v), e)
	}
}

func TestTermsOfAllKinds(t *testing.T) {
	for _, c := range append(plainPairs(), pairsOfNoOrder()...) {
		expectTerms(t, c.define(t), 100)
	}
}

// Windows that are longer than they need be: n within the window, and behind it.
func TestTermsBehindLongWindows(t *testing.T) {
	for _, c := range append(plainPairs(), pairsOfNoOrder()...) {
		want := modelOf(c.define(t)).values(70)
		for _, by := range []int{1, 2, 5, 20} {
			s := c.longer(by).define(t)
			for _, n := range []int{0, 1, len(c.win), s.Len() - 1, s.Len(), s.Len() + 1, s.Len() + s.Order(), 69} {
				expectTerm(t, s, n, want[n])
			}
		}
	}
}

// Forms that are not normal say the same.
func TestTermsOfForms(t *testing.T) {
	for _, c := range plainPairs() {
		want := modelOf(c.define(t)).values(40)
		for _, other := range []pair{{padded(c.a), c.win}, {c.a, raised(c.win)}, {padded(c.a), raised(c.win)}} {
			s := other.define(t)
			for k, v := range want {
				expectTerm(t, s, k, v)
			}
		}
	}
}

func TestTermIndices(t *testing.T) {
	for _, s := range []*seq.Seq{nil, {}, fibonacci(t), factorials(t), seq.Const(over(1, 2)), seq.Poly(p(0, 1)), pairsOfNoOrder()[4].define(t)} {
		for _, n := range []int{math.MinInt, -4097, -1, 4097, 4098, math.MaxInt} {
			if v, e := split.Term(s, n); e != api.ErrIndex || !isRat(v, new(big.Rat)) {
				t.Errorf("P13.1: Term(%s, %d): %v, %d", modelOf(s), n, v, e)
			}
			expectTerm(t, s, n, nil)
		}
		expectTerms(t, s, 3)
	}
}

// The last index that is told, by other roads.
func TestTheGreatestIndex(t *testing.T) {
	a, b := big.NewInt(0), big.NewInt(1)
	for range 4095 {
		a, b = b, new(big.Int).Add(a, b)
	}
	inverse := pair{api.Op{p(-1), p(1, 1)}, values(1)}.define(t)
	fact := new(big.Int).MulRange(1, 4095)
	for _, c := range []struct {
		s       *seq.Seq
		but, at *big.Rat
	}{
		{fibonacci(t), new(big.Rat).SetInt(a), new(big.Rat).SetInt(b)},
		{factorials(t), new(big.Rat).SetInt(fact), new(big.Rat).SetInt(new(big.Int).MulRange(1, 4096))},
		{inverse, new(big.Rat).SetFrac(big.NewInt(1), fact), new(big.Rat).SetFrac(big.NewInt(1), new(big.Int).MulRange(1, 4096))},
		{seq.Poly(p(7, 0, 1)), big.NewRat(4095*4095+7, 1), big.NewRat(4096*4096+7, 1)},
		{seq.Const(over(-1, 3)), big.NewRat(-1, 3), big.NewRat(-1, 3)}, {nil, new(big.Rat), new(big.Rat)},
	} {
		expectTerm(t, c.s, 4095, c.but)
		expectTerm(t, c.s, 4096, c.at)
		expectTerm(t, c.s, 4097, nil)
	}
	expectTerm(t, farFree(t), 4095, big.NewRat(5, 3))
	expectTerm(t, farFree(t), 4096, big.NewRat(20, 3))
}

// Values far out: the relation among them holds, and unroll tells the same.
func TestTermsFarOut(t *testing.T) {
	for _, c := range plainPairs() {
		s := c.define(t)
		m := modelOf(s)
		for _, n := range []int{300, 777, 1500} {
			if m.isBig(n + s.Order()) {
				expectTerm(t, s, n+s.Order(), nil)
				continue
			}
			var around []*big.Rat
			for k := n; k <= n+s.Order(); k++ {
				v, e := split.Term(s, k)
				around = append(around, bigRat(v))
				if w, f := unroll.Term(s, k); e != api.OK || f != api.OK || !reflect.DeepEqual(v, w) {
					t.Errorf("P13.1: Term(%s, %d): %d, unroll's: %d, or other values", m, k, e, f)
				}
			}
			if m.op.moved(n).relation(0, around).Sign() != 0 {
				t.Errorf("P13.1: of %s: the relation at %d does not hold", m, n)
			}
		}
	}
}

// expectEnd looks at Term just where it begins to refuse.
func expectEnd(t *testing.T, s *seq.Seq) {
	t.Helper()
	m := modelOf(s)
	end := 0
	for m.refusedTerm(end) == api.OK {
		end++
	}
	values := m.values(end)
	for n := max(end-3, 0); n < end+2; n++ {
		if n < end {
			expectTerm(t, s, n, values[n])
		} else {
			expectTerm(t, s, n, nil)
		}
	}
}

// Estimates that are 2^20 just, and a bit more, by the operator's bits.
func TestTermsAtTheLimit(t *testing.T) {
	for _, c := range []struct{ r, d, n int }{
		{0, 0, 1}, {0, 9, 7}, {1, 0, 3}, {1, 3, 3}, {1, 2, 7}, {1, 0, 511}, {3, 0, 7}, {3, 7, 31}, {7, 2, 15}, {15, 0, 31}, {63, 0, 127}, {1, 30, 255}, {0, 1, 4095}, {3, 0, 4095}, {1, 2, 2047},
	} {
		k := (1<<20)/((c.n+1)*(c.r+1)) - (c.d+1)*(bits.Len(uint(c.n))+1) - 8
		for more, want := range []api.Errno{api.OK, api.OK, api.ErrBig} {
			win := make([]api.Rat, c.r)
			if c.r > 0 {
				win[c.r-1] = over(1, 3)
			}
			s := pair{opOf(c.r, c.d, k-1+more), win}.define(t)
			if _, e := split.Term(s, c.n); e != want {
				t.Errorf("P13.1: order %d, degree %d, %d bits, at %d: %d, not %d", c.r, c.d, k-1+more, c.n, e, want)
			}
			expectEnd(t, s)
		}
	}
}

// The same by the window's bits; what is within the window is refused, too.
func TestTermsAtTheLimitOfWindows(t *testing.T) {
	for _, n := range []int{0, 1, 3, 15, 255} {
		w := (1<<20)/(n+1) - 1
		for more, want := range []api.Errno{api.OK, api.OK, api.ErrBig} {
			for _, v := range []api.Rat{{Num: bitsOf(w - 2 + more), Den: limbs.Of(1)}, {Num: limbs.Of(-1), Den: bitsOf(w - 2 + more)}} {
				s := seq.Const(v)
				if _, e := split.Term(s, n); e != want {
					t.Errorf("P13.1: a value of %d bits, at %d: %d, not %d", w-1+more, n, e, want)
				}
				expectEnd(t, s)
			}
		}
	}
	for _, s := range []*seq.Seq{seq.Poly(power(60)), seq.Poly(power(400)), seq.Poly(power(1200)), seq.Const(api.Rat{Num: bitsOf(1 << 20), Den: limbs.Of(1)})} {
		expectEnd(t, s)
	}
}

func TestConstantsAndPolynomials(t *testing.T) {
	for _, v := range append(raised(values(0, 3, 9)), over(0, 1), over(-22, 7), api.Rat{Num: bitsOf(200), Den: limbs.Of(3)}) {
		s := seq.Const(v)
		for _, n := range []int{0, 1, 2, 700, 4096} {
			expectTerm(t, s, n, bigRat(v))
		}
	}
	for _, q := range []api.Poly{nil, p(0), p(5), p(1, 2, 3), power(5), {bitsOf(100), limbs.Of(-4)}, append(power(14), bitsOf(3)), {wide(limbs.Of(4)), wide(limbs.Of(0)), {}}} {
		s := seq.Poly(q)
		for _, n := range []int{0, 1, 2, 14, 15, 16, 17, 300, 1000} {
			expectTerm(t, s, n, new(big.Rat).SetInt(toBig(q).at(n)))
		}
	}
}

// The value behind a free one comes of it, whatever the relation ahead says.
func TestTermsBehindFreeValues(t *testing.T) {
	for _, free := range []int64{-4, 0, 7, 8} {
		s := pair{api.Op{p(0, -1), at(2)}, values(1, 0, 0, free)}.define(t)
		expectTerms(t, s, 12)
		// From there on, (n - 1) (n - 2) over 2 times the free value.
		expectTerm(t, s, 5, big.NewRat(6*free, 1))
		expectTerm(t, s, 20, big.NewRat(171*free, 1))
	}
}

func TestRandomTerms(t *testing.T) {
	d := rand.New(rand.NewSource(135))
	for range 200 {
		c := randomPair(d, d.Intn(5))
		s := c.define(t)
		n := len(c.win) + d.Intn(90)
		expectTerm(t, s, n, modelOf(s).values(n + 1)[n])
	}
	for _, order := range []int{1, 2, 3, 4, 7, 20} {
		s := longPair(d, order, d.Intn(3), 1+d.Intn(3)).define(t)
		expectTerms(t, s, 3*order)
		for _, n := range []int{60, 99} {
			expectTerm(t, s, n, modelOf(s).values(n + 1)[n])
		}
	}
}
