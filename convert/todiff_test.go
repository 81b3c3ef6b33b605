package convert_test

import (
	"math/big"
	"math/rand"
	"testing"

	"ashlar/api"
	"ashlar/convert"
	"ashlar/limbs"
	"ashlar/ore"
	"ashlar/rat"
	"ashlar/seq"
	"ashlar/upoly"
)

// expectDiff asks for a sequence's equation: it tells the refusal, where there is
// one, and otherwise holds the equation, at every power below n.
func expectDiff(t *testing.T, s *seq.Seq, n int) api.Errno {
	t.Helper()
	m := modelOf(s)
	d, e := convert.ToDiff(s)
	want := api.OK
	if turnOf(m.op) > api.MaxBits || len(m.win) > 64 {
		want = api.ErrBig
	}
	if e != want || e != api.OK && len(d) > 0 {
		t.Errorf("P16.1: of (%s): %d, not %d; %v", m, e, want, d)
	}
	if e != api.OK {
		return e
	}
	if ore.Order(d) < 0 {
		t.Errorf("P16.1: of (%s): zero", m)
		return e
	}
	if !isNormal(d) {
		t.Errorf("P16.1: of (%s): not in normal form: %v", m, d)
	}
	op := opToBig(d)
	values := m.values(n + len(op))
	for k, v := range op.on(values) {
		if v.Sign() != 0 {
			t.Errorf("P16.1: %v on the series of (%s): at the power %d: %s", op, m, k, v)
			return e
		}
	}
	return e
}

func isNormal(a api.Op) bool {
	if len(a) > 0 && upoly.Deg(a[len(a)-1]) < 0 {
		return false
	}
	for _, q := range a {
		if len(q) != upoly.Deg(q)+1 {
			return false
		}
		for _, c := range q {
			if n := len(c.L); n > 0 && c.L[n-1] == 0 || n == 0 && c.Neg {
				return false
			}
		}
	}
	return true
}

// expectDiffTold expects an equation that is not refused, and holds it by Coeff, too.
func expectDiffTold(t *testing.T, s *seq.Seq, n int) {
	t.Helper()
	if e := expectDiff(t, s, n); e != api.OK {
		t.Errorf("P16.1: of (%s): refused: %d", modelOf(s), e)
		return
	}
	d, _ := convert.ToDiff(s)
	for k := range n {
		if v, e := convert.Coeff(d, s, k); e != api.OK || limbs.Sign(v.Num) != 0 {
			t.Errorf("P16.1, P16.3: of (%s): at the power %d: %s, %d", modelOf(s), k, rat.Text(v), e)
			return
		}
	}
}

// Const(1) is 1 over 1 - x: what annihilates it is a multiple of (x - 1) D + 1.
func TestExampleOfToDiff(t *testing.T) {
	d, e := convert.ToDiff(seq.Const(over(1, 1)))
	if e != api.OK || !ore.Eq(d, api.Op{p(1), p(-1, 1)}) {
		t.Errorf("P16.1: %v, %d", d, e)
	}
}

// Sequences of all kinds, with windows as long as they need be, and longer.
func TestToDiff(t *testing.T) {
	told := 0
	for _, c := range append(plainPairs(), pairsOfNoOrder()...) {
		for _, by := range []int{0, 1, 5, 30} {
			if expectDiff(t, c.longer(by).define(t), 120) == api.OK {
				told++
			}
		}
	}
	if told < 150 {
		t.Errorf("too many are refused: %d are told", told)
	}
}

// Zero, constants, polynomials, and none: of these the equation holds far out.
func TestToDiffOfPlainSequences(t *testing.T) {
	for _, s := range []*seq.Seq{
		nil, {}, seq.Const(over(0, 1)), seq.Const(over(1, 1)), seq.Const(over(-22, 7)), seq.Poly(nil), seq.Poly(p(1)), seq.Poly(p(-7, 2)), seq.Poly(p(0, 0, 1)),
		seq.Poly(p(1, 0, 2)), seq.Poly(p(0, -1, 0, 4)), seq.Poly(at(0, 1, 2, 3, 4)), seq.Poly(at(2, 2, 5)), fibonacci(t), factorials(t), inverses(t),
		pair{api.Op{p(-1), p(1)}, values(0, 0, 0)}.define(t), pair{api.Op{p(-1), p(-1), p(1)}, values(0, 0)}.define(t), pair{api.Op{nil, nil, p(1)}, values(1, 0)}.define(t),
		pair{api.Op{p(0, -1), p(-2, 1)}, values(1, 0, 0, 7)}.define(t), pair{api.Op{at(3)}, []api.Rat{{}, {}, {}, over(1, 2)}}.define(t),
	} {
		expectDiffTold(t, s, 300)
	}
}

// Of zero, by whatever operator, the equation is not zero.
func TestToDiffOfZero(t *testing.T) {
	for _, a := range []api.Op{{p(1)}, {p(-3)}, {at(0)}, {at(2, 7)}, {p(-1), p(1)}, {p(2, 1), p(0, 1)}, {nil, p(5)}, {p(1, 2), nil, at(3)}, {nil, nil, nil, p(0, 3)}} {
		for _, length := range []int{8, 12, 40} {
			s := pair{a, make([]api.Rat, length)}.define(t)
			if d, e := convert.ToDiff(s); e != api.OK || ore.Order(d) < 0 {
				t.Errorf("P16.1: of zeros, by %v: %v, %d", a, d, e)
			}
			expectDiffTold(t, s, 60)
		}
	}
}

// Values that are free say what the relations do not: at each of them, and ahead
// of the first relation, the series is made of what is there.
func TestToDiffAtFreeIndices(t *testing.T) {
	d := rand.New(rand.NewSource(16))
	for _, roots := range [][]int64{{0}, {1}, {5}, {9}, {0, 1}, {2, 3, 4}, {0, 4, 8}, {3, 3}, {7, 12}} {
		for order := range 4 {
			for range 3 {
				a := make(api.Op, order+1)
				for i := range order {
					a[i] = p(d.Int63n(5)-2, d.Int63n(3)-1)
				}
				a[order] = at(roots...)
				var free []api.Rat
				for range order + len(roots) {
					free = append(free, over(d.Int63n(9)-4, 1+d.Int63n(3)))
				}
				length := order + 1 + int(roots[len(roots)-1])
				expectDiffTold(t, filled(a, length+d.Intn(3), free).define(t), 40)
			}
		}
	}
}

func TestToDiffOfRandomSequences(t *testing.T) {
	d := rand.New(rand.NewSource(161))
	told := 0
	for i := range 600 {
		c := randomPair(d, i%4)
		if expectDiff(t, c.define(t), 40+i%100) == api.OK {
			told++
		}
	}
	if told < 400 {
		t.Errorf("too many are refused: %d are told", told)
	}
}

// The equation hangs on the sequence alone: what the window tells, and not how.
func TestToDiffOfAnyForm(t *testing.T) {
	for i, c := range append(plainPairs(), pairsOfNoOrder()...) {
		c = c.longer(i % 3)
		d, e := convert.ToDiff(c.define(t))
		again, f := convert.ToDiff(pair{padded(c.a), raised(c.win)}.define(t))
		if e != f || !ore.Eq(d, again) {
			t.Errorf("P16.1: of (%s) in another form: %v, %d, not %v, %d", modelOf(c.define(t)), again, f, d, e)
		}
	}
}

// A long window says no more than a short one: where all of it follows, the same
// powers are left.
func TestToDiffOfLongWindows(t *testing.T) {
	for _, c := range []pair{{api.Op{p(-1), p(-1), p(1)}, values(0, 1)}, {api.Op{p(-1, -1), p(1)}, values(1)}, {api.Op{p(1), p(0, -1), p(2, 3, 1)}, values(1, 1)}} {
		for length := len(c.win); length <= 64; length += 7 {
			s := c.longer(length - len(c.win)).define(t)
			expectDiffTold(t, s, 100)
			short, _ := convert.ToDiff(c.define(t))
			if d, e := convert.ToDiff(s); e != api.OK || ore.Order(d) > ore.Order(short) {
				t.Errorf("P16.1: of (%s): %v, %d", modelOf(s), d, e)
			}
		}
	}
}

// Great values within a window change no more than which of them are 0.
func TestToDiffOfGreatValues(t *testing.T) {
	huge := api.Rat{Num: bitsOf(2000), Den: limbs.Add(bitsOf(3000), limbs.Of(1))}
	for _, c := range []pair{
		{api.Op{p(-1), p(-1), p(1)}, []api.Rat{huge, over(1, 3)}}, {api.Op{p(0, -1), at(2)}, []api.Rat{huge, {}, {}, huge}},
		filled(api.Op{p(1), nil, at(1)}, 4, []api.Rat{huge, over(2, 1), huge}), {api.Op{at(2, 0)}, []api.Rat{huge, {}, huge}},
	} {
		expectDiffTold(t, c.define(t), 30)
	}
}

// on and coefficient, by which equations are held, say the same.
func TestTheTestsOwnReckoning(t *testing.T) {
	series := modelOf(factorials(t)).values(40)
	a := opToBig(api.Op{p(1, 0, -3), nil, p(2, 5), p(0, 0, 0, 1)})
	for n, v := range a.on(series) {
		if v.Cmp(a.coefficient(n, series)) != 0 {
			t.Errorf("at %d: %s, not %s", n, v, a.coefficient(n, series))
		}
	}
	if v := a.on([]*big.Rat{big.NewRat(1, 1), big.NewRat(1, 1), big.NewRat(2, 1), big.NewRat(6, 1)})[0]; v.Cmp(big.NewRat(9, 1)) != 0 { // 1 + 2 2! 2
		t.Errorf("at 0: %s", v)
	}
}
