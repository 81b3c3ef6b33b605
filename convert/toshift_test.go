package convert_test

import (
	"math"
	"math/big"
	"math/rand"
	"testing"

	"ashlar/api"
	"ashlar/convert"
	"ashlar/limbs"
	"ashlar/ore"
	"ashlar/seq"
)

// shiftOf gives the recurrence that the document's sum gives, entry by entry.
func shiftOf(a bigOp) bigOp {
	low, high := math.MaxInt, math.MinInt
	for j, p := range a {
		for k, c := range p {
			if c.Sign() != 0 {
				low, high = min(low, j-k), max(high, j-k)
			}
		}
	}
	out := make(bigOp, high-low+1)
	for j, p := range a {
		for k, c := range p {
			if c.Sign() != 0 {
				t := j - k - low
				out[t] = plus(out[t], scaled(runOf(j, -low-k), c))
			}
		}
	}
	return out
}

// runOf gives the product of (x + by + u) for u from 1 to j.
func runOf(j, by int) bigPoly {
	out := bigPoly{big.NewInt(1)}
	for u := 1; u <= j; u++ {
		next := make(bigPoly, len(out)+1)
		for i := range next {
			next[i] = new(big.Int)
		}
		for i, c := range out {
			next[i+1].Add(next[i+1], c)
			next[i].Add(next[i], new(big.Int).Mul(c, big.NewInt(int64(by+u))))
		}
		out = next
	}
	return out
}

func scaled(p bigPoly, by *big.Int) bigPoly {
	var out bigPoly
	for _, c := range p {
		out = append(out, new(big.Int).Mul(c, by))
	}
	return out
}

func plus(p, q bigPoly) bigPoly {
	out := make(bigPoly, max(len(p), len(q)))
	for i := range out {
		out[i] = new(big.Int)
		for _, r := range []bigPoly{p, q} {
			if i < len(r) {
				out[i].Add(out[i], r[i])
			}
		}
	}
	for len(out) > 0 && out[len(out)-1].Sign() == 0 {
		out = out[:len(out)-1]
	}
	return out
}

func (a bigOp) toOp() api.Op {
	out := make(api.Op, len(a))
	for i, p := range a {
		for _, c := range p {
			out[i] = append(out[i], fromBig(c))
		}
	}
	return out
}

// expectShift holds a recurrence against the document's sum, or looks for the
// refusal.
func expectShift(t *testing.T, a api.Op) api.Errno {
	t.Helper()
	op := opToBig(a)
	got, e := convert.ToShift(a)
	want := api.OK
	switch {
	case len(op) == 0:
		want = api.ErrZero
	case turnOf(op) > api.MaxBits:
		want = api.ErrBig
	}
	if e != want || e != api.OK && len(got) > 0 {
		t.Errorf("P16.2: of %v: %d, not %d; %v", model{op: op}, e, want, got)
	}
	if e != api.OK {
		return e
	}
	sum := shiftOf(op).toOp()
	if !ore.Eq(got, sum) || !isNormal(got) || len(got) != len(sum) {
		t.Errorf("P16.2: of %v: %v, not %v", model{op: op}, opToBig(got), opToBig(sum))
	}
	return e
}

func expectShiftTold(t *testing.T, a api.Op) {
	t.Helper()
	if e := expectShift(t, a); e != api.OK {
		t.Errorf("P16.2: of %v: refused: %d", opToBig(a), e)
	}
}

// Written out by hand: nothing is divided out, and no sign is turned.
func TestExamplesOfToShift(t *testing.T) {
	for i, c := range []struct{ a, want api.Op }{
		{api.Op{p(-1), p(1)}, api.Op{p(-1), p(1, 1)}},                                                            // D - 1: (x + 1) S - 1
		{api.Op{p(2), p(-2)}, api.Op{p(2), p(-2, -2)}},                                                           // -2 D + 2
		{api.Op{p(1)}, api.Op{p(1)}},                                                                             // 1
		{api.Op{p(0, 0, 5)}, api.Op{p(5)}},                                                                       // 5x^2: lo is -2, and the entry 5
		{api.Op{nil, p(1)}, api.Op{p(0, 1)}},                                                                     // D: lo is 1, and the entry x
		{api.Op{nil, p(0, 1)}, api.Op{p(0, 1)}},                                                                  // x D
		{api.Op{nil, nil, p(1)}, api.Op{p(0, -1, 1)}},                                                            // D^2: x (x - 1)
		{api.Op{p(1), p(-1, 1)}, api.Op{p(1, 1), p(-1, -1)}},                                                     // (x - 1) D + 1: -(x + 1) S + (x + 1)
		{api.Op{p(-1, -2), p(1, -1, -1)}, api.Op{p(-2, -1), p(-2, -1), p(2, 1)}},                                 // (1 - x - x^2) D - (2x + 1)
		{api.Op{p(0, 0, 1), p(0, 1), p(0, 0, 1)}, api.Op{p(1), nil, p(4, 4, 1)}},                                 // x^2 D^2 + x D + x^2, Bessel's: (x + 2)^2 S^2 + 1
		{api.Op{p(3, 0, 0, 0, 1), nil, nil, p(0, 1)}, api.Op{p(1), nil, nil, nil, p(3), nil, p(120, 74, 15, 1)}}, // x D^3 + x^4 + 3
	} {
		got, e := convert.ToShift(c.a)
		if e != api.OK || !ore.Eq(got, c.want) {
			t.Errorf("P16.2: example %d: %v, %d, not %v", i, opToBig(got), e, opToBig(c.want))
		}
		expectShiftTold(t, c.a)
		expectShiftTold(t, padded(c.a))
	}
}

// One coefficient alone: lo is below 0, 0 and above it, and there is one entry.
func TestToShiftOfOneCoefficient(t *testing.T) {
	for j := range 9 {
		for k := range 9 {
			for _, c := range []int64{1, -1, -7, 1 << 40} {
				a := make(api.Op, j+1)
				a[j] = append(make(api.Poly, k), limbs.Of(c))
				if e := expectShift(t, a); e != api.OK && j+k < 11 {
					t.Errorf("P16.2: of %v: refused: %d", opToBig(a), e)
				}
			}
		}
	}
}

// Zero entries between, and zero coefficients; lo is where the least j - k is at
// which the coefficient is not 0.
func TestToShiftWithZerosBetween(t *testing.T) {
	for _, a := range []api.Op{
		{nil, nil, nil, p(0, 0, 3)}, {p(0, 0, 0, 1), nil, nil, p(-2)}, {p(1), nil, nil, nil, p(0, 0, 0, 0, 1)}, {nil, p(0, 0, 0, 5), nil, p(7)},
		{p(0, 0, 0, 0, 0, 0, 1), nil, p(0, 1), nil, p(1, 0, 2)}, {nil, nil, p(0, 0, 1, 0, 0, -1)}, {nil, p(0, 0, -1), nil, nil, p(0, 0, 0, 1)},
		// Of one line, whose sum is a product of all.
		{p(6), p(0, -6), p(0, 0, 3), p(0, 0, 0, -1)}, {nil, p(1), p(0, 1), p(0, 0, 1)}, {p(0, 2), p(0, 0, -2), p(0, 0, 0, 1)},
		// Far ends.
		{append(make(api.Poly, 15), limbs.Of(1)), p(1)}, append(make(api.Op, 14), p(1, 1)),
	} {
		expectShiftTold(t, a)
		expectShiftTold(t, padded(a))
	}
}

func TestToShiftOfRandomOperators(t *testing.T) {
	d := rand.New(rand.NewSource(162))
	told := make([]int, 5)
	for range 3000 {
		told[expectShift(t, randomOp(d, d.Intn(6), d.Intn(7)))]++
	}
	if told[api.OK] < 2000 || told[api.ErrBig] > 500 {
		t.Errorf("too many are refused: %v", told)
	}
}

// randomOp gives one with many zeros, of an order and a degree that are at most
// these.
func randomOp(d *rand.Rand, order, degree int) api.Op {
	out := make(api.Op, 1+d.Intn(order+1))
	for i := range out {
		for range d.Intn(degree + 2) {
			c := limbs.Of((d.Int63n(9) - 4) * d.Int63n(2))
			if d.Intn(20) == 0 {
				c = limbs.Mul(c, bitsOf(70))
			}
			out[i] = append(out[i], c)
		}
	}
	return out
}

func TestToShiftOfZero(t *testing.T) {
	for _, z := range []api.Op{nil, {}, {nil}, {{}, zeros(), nil}, {zeros()}, make(api.Op, 3000), {make(api.Poly, 3000)}} {
		if a, e := convert.ToShift(z); e != api.ErrZero || len(a) > 0 {
			t.Errorf("P16.2: of zero: %v, %d", a, e)
		}
		if s, e := convert.Solve(z, values(1)); e != api.ErrZero || s != nil {
			t.Errorf("P16.3: Solve of zero: %d", e)
		}
	}
}

// known is a series with operators of Diff that annihilate it.
type known struct {
	name   string
	value  func(n int) *big.Rat
	equals []api.Op
}

func inverse(n int64) *big.Rat { return big.NewRat(1, n) }

func factorial(n int) *big.Int { return new(big.Int).MulRange(1, int64(n)) }

// series are such as are known: there the equations are the books'.
func series() []known {
	odd := func(v func(n int) *big.Rat) func(n int) *big.Rat {
		return func(n int) *big.Rat {
			if n%2 == 0 {
				return new(big.Rat)
			}
			return v(n)
		}
	}
	sign := func(n int) int64 { return 1 - int64(n%2)*2 }
	return []known{
		{"exp", func(n int) *big.Rat { return new(big.Rat).SetFrac(big.NewInt(1), factorial(n)) }, []api.Op{{p(-1), p(1)}, {nil, p(-1), p(1)}, {p(1), p(-1, -1), p(0, 1)}}},
		{"-log(1 - x)", func(n int) *big.Rat {
			if n == 0 {
				return new(big.Rat)
			}
			return inverse(int64(n))
		}, []api.Op{{nil, p(-1), p(1, -1)}, {nil, p(0, -3), p(0, 3, -3)}}},
		{"arctan", odd(func(n int) *big.Rat { return big.NewRat(sign(n/2), int64(n)) }), []api.Op{{nil, p(0, 2), p(1, 0, 1)}}},
		{"sin", odd(func(n int) *big.Rat { return new(big.Rat).SetFrac(big.NewInt(sign(n/2)), factorial(n)) }), []api.Op{{p(1), nil, p(1)}}},
		{"1 over (1 - x)^2", func(n int) *big.Rat { return big.NewRat(int64(n+1), 1) }, []api.Op{{p(-2), p(1, -1)}, {p(-2, 2), p(1, -2, 1)}, {nil, p(-3), p(1, -1)}}},
		{"x^5", func(n int) *big.Rat { return big.NewRat(map[bool]int64{true: 1}[n == 5], 1) }, []api.Op{{p(-5), p(0, 1)}, append(make(api.Op, 6), p(1)), {nil, p(-4), p(0, 1)}}},
		{"the sum of n! x^n", func(n int) *big.Rat { return new(big.Rat).SetInt(factorial(n)) }, []api.Op{{p(1), p(-1, 3), p(0, 0, 1)}}},
	}
}

// The recurrence's relation holds at every n: ahead of lo, too.
func TestRelationsOfKnownSeries(t *testing.T) {
	for _, c := range series() {
		var vs []*big.Rat
		for n := range 160 {
			vs = append(vs, c.value(n))
		}
		for _, a := range c.equals {
			for _, v := range opToBig(a).on(vs) {
				if v.Sign() != 0 {
					t.Fatalf("the test: %s is not annihilated by %v", c.name, opToBig(a))
				}
			}
			expectRelations(t, c.name, a, vs)
		}
	}
}

// expectRelations holds the relations of an equation's recurrence, and of some of
// its multiples, at every n of which the values speak.
func expectRelations(t *testing.T, name string, a api.Op, vs []*big.Rat) {
	t.Helper()
	rule, _ := ore.New(api.Diff, api.Int{})
	for _, by := range []api.Op{{p(1)}, {p(0, 1)}, {p(0, 0, 0, 1)}, {nil, p(1)}, {p(-3, 1), p(0, 2)}, {p(1, 1), nil, p(0, 1)}} {
		more, e := rule.Mul(by, a)
		if e != api.OK {
			continue
		}
		r, e := convert.ToShift(more)
		if e == api.ErrBig {
			continue
		}
		op := opToBig(r)
		if e != api.OK || op.order() < 0 {
			t.Errorf("P16.2: %s: %v: %v, %d", name, opToBig(more), op, e)
			continue
		}
		for n := range len(vs) - op.order() {
			if op.relation(n, vs).Sign() != 0 {
				t.Errorf("P16.2: %s, by %v: the relation at %d of %v does not hold", name, opToBig(more), n, op)
				break
			}
		}
	}
}

// A sequence's equation gives a recurrence that holds of it, everywhere.
func TestRelationsOfSequences(t *testing.T) {
	d := rand.New(rand.NewSource(163))
	all := []*seq.Seq{nil, seq.Const(over(3, 7)), seq.Poly(p(1, 0, 2)), fibonacci(t), factorials(t), inverses(t)}
	for i := range 200 {
		all = append(all, randomPair(d, i%4).define(t))
	}
	held := 0
	for _, s := range all {
		if a, e := convert.ToDiff(s); e == api.OK {
			expectRelations(t, modelOf(s).String(), a, modelOf(s).values(70))
			held++
		}
	}
	if held < 120 {
		t.Errorf("too many are refused: %d are held", held)
	}
}
