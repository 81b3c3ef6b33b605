package unroll_test

import (
	"math/big"
	"math/rand"
	"slices"
	"testing"

	"ashlar/api"
	"ashlar/limbs"
	"ashlar/rat"
	"ashlar/seq"
	"ashlar/unroll"
)

func TestExamples(t *testing.T) {
	if v, e := unroll.Term(fibonacci(t), 10); e != api.OK || rat.Text(v) != "55" {
		t.Errorf("P12.1: Fibonacci's number 10: %s, %d", rat.Text(v), e)
	}
	if v, e := unroll.Term(factorials(t), 5); e != api.OK || rat.Text(v) != "120" {
		t.Errorf("P12.1: 5!: %s, %d", rat.Text(v), e)
	}
	for _, n := range []int{-1, 4097} {
		if v, e := unroll.Term(fibonacci(t), n); e != api.ErrIndex || !isRat(v, new(big.Rat)) {
			t.Errorf("P12.1: Term(.., %d): %v, %d", n, v, e)
		}
	}
	vs, e := unroll.Terms(nil, 3)
	if e != api.OK || len(vs) != 3 || slices.ContainsFunc(vs, func(v api.Rat) bool { return !isRat(v, new(big.Rat)) }) {
		t.Errorf("P12.1: Terms(nil, 3): %v, %d", vs, e)
	}
}

// Values that are known without the relation.
func TestKnownValues(t *testing.T) {
	powers := define(t, api.Op{p(-3), p(2)}, []api.Rat{over(5, 7)})
	inverses := define(t, api.Op{p(-1), p(1, 1)}, values(1))
	harmonic := define(t, api.Op{p(1, 1), p(-3, -2), p(2, 1)}, values(0, 1))
	catalan := define(t, api.Op{p(-2, -4), p(2, 1)}, values(1))
	sum := new(big.Rat)
	for n := range int64(80) {
		k := int(n)
		power := new(big.Rat).SetFrac(new(big.Int).Exp(big.NewInt(3), big.NewInt(n), nil), new(big.Int).Exp(big.NewInt(2), big.NewInt(n), nil))
		expectTerm(t, powers, k, power.Mul(power, big.NewRat(5, 7)))
		fact := new(big.Int).MulRange(1, n)
		expectTerm(t, factorials(t), k, new(big.Rat).SetInt(fact))
		expectTerm(t, inverses, k, new(big.Rat).SetFrac(big.NewInt(1), fact))
		expectTerm(t, harmonic, k, sum)
		sum.Add(sum, big.NewRat(1, n+1))
		middle := new(big.Int).Binomial(2*n, n)
		expectTerm(t, catalan, k, new(big.Rat).SetFrac(middle, big.NewInt(n+1)))
	}
	a, b := big.NewInt(0), big.NewInt(1)
	for k := range 300 {
		expectTerm(t, fibonacci(t), k, new(big.Rat).SetInt(a))
		a, b = b, new(big.Int).Add(a, b)
	}
}

func TestValuesOfAllKinds(t *testing.T) {
	for _, c := range plainPairs() {
		s := define(t, c.a, c.win)
		expect(t, s, 60)
	}
}

// Forms that are not normal say the same.
func TestFormsSayTheSame(t *testing.T) {
	for _, c := range plainPairs() {
		want := expectTerms(t, define(t, c.a, c.win), 40)
		for i, d := range []pair{{padded(c.a), c.win}, {c.a, raised(c.win)}, {padded(c.a), raised(c.win)}} {
			got := expectTerms(t, define(t, d.a, d.win), 40)
			if !slices.EqualFunc(got, want, func(a, b api.Rat) bool { return isRat(a, bigRat(b)) }) {
				t.Errorf("P12.1: of %v, form %d: %v", opToBig(c.a), i, bigRats(got))
			}
		}
	}
}

// Windows that are longer than they need be say the same; n may stand within the
// window, at its end, and just behind it.
func TestWindowsOfAllLengths(t *testing.T) {
	for _, c := range plainPairs() {
		want := bigRats(expectTerms(t, define(t, c.a, c.win), 40))
		for by := range 12 {
			longer := c.longer(by)
			s := define(t, longer.a, longer.win)
			for _, n := range []int{0, 1, len(c.win), s.Len() - 1, s.Len(), s.Len() + 1, s.Len() + 2, 39} {
				if n < 0 {
					continue
				}
				expectTerm(t, s, n, want[n])
				for k, v := range expectTerms(t, s, n) {
					if bigRat(v).Cmp(want[k]) != 0 {
						t.Errorf("P12.1: of %s: Terms(.., %d) at %d: %s", modelOf(s), n, k, bigRat(v))
					}
				}
			}
		}
	}
}

// All is as the window has it, though the relations of another would say other.
func TestFreeValues(t *testing.T) {
	a := api.Op{p(0, -1), at(2)} // (x - 2) S - x: free is 3
	for _, free := range []int64{-4, 0, 7, 8} {
		expect(t, define(t, a, values(1, 0, 0, free)), 30)
		// From there on, (n - 1) (n - 2) over 2 times the free value.
		expectTerm(t, define(t, a, values(1, 0, 0, free)), 20, big.NewRat(171*free, 1))
	}
	zero := define(t, api.Op{at(3, 1)}, values(0, 4, 0, 5))
	for k, want := range []int64{0, 4, 0, 5, 0, 0, 0} {
		expectTerm(t, zero, k, big.NewRat(want, 1))
	}
}

func TestConstantsAndPolynomials(t *testing.T) {
	for _, v := range append(raised(values(0, 3, 9, 18)), values(-5)[0], over(0, 1), over(-22, 7), api.Rat{Num: bitsOf(200), Den: limbs.Of(3)}) {
		s := seq.Const(v)
		expect(t, s, 30)
		for _, n := range []int{0, 1, 2, 700, 4096} {
			expectTerm(t, s, n, bigRat(v))
		}
	}
	for _, q := range []api.Poly{nil, {}, p(0), p(5), p(1, 2, 3), p(0, 0, 0, 0, 0, 1), {bitsOf(100), limbs.Of(-4)}, append(make(api.Poly, 14), bitsOf(3)), {wide(limbs.Of(4)), wide(limbs.Of(0)), {}}} {
		s := seq.Poly(q)
		expect(t, s, 60)
		for _, n := range []int{0, 1, 300, 1500} {
			expectTerm(t, s, n, new(big.Rat).SetInt(toBig(q).at(n)))
		}
	}
}

// A sequence that is none is that of the operator 1 without a window.
func TestNoSequence(t *testing.T) {
	for _, s := range []*seq.Seq{nil, {}} {
		expect(t, s, 20)
		for _, n := range []int{0, 1, 7, 4096} {
			expectTerm(t, s, n, new(big.Rat))
		}
		if vs := expectTerms(t, s, 4096); len(vs) != 4096 {
			t.Errorf("P12.1: Terms of a nil sequence: %d", len(vs))
		}
		count := 0
		for k, v := range unroll.All(s) {
			if k != count || !isRat(v, new(big.Rat)) {
				t.Fatalf("P12.2: All of a nil sequence: %d, %v", k, v)
			}
			count++
		}
		if count != 4097 {
			t.Errorf("P12.2: All of a nil sequence ends at %d", count)
		}
		for _, n := range []int{-1, 4097} {
			expectTerm(t, s, n, nil)
			expectTerms(t, s, n)
		}
	}
}

func TestRandomSequences(t *testing.T) {
	d := rand.New(rand.NewSource(12))
	for range 300 {
		c := randomPair(d, d.Intn(5))
		s := define(t, c.a, c.win)
		expectTerms(t, s, len(c.win)+d.Intn(40))
		if d.Intn(4) == 0 {
			expect(t, s, len(c.win)+15)
		}
	}
}

// Entries of many bits, and windows whose values share little: numbers of some
// thousand bits, and of many steps.
func TestLongValues(t *testing.T) {
	d := rand.New(rand.NewSource(13))
	number := func(n int) api.Int {
		out := api.Int{Neg: d.Intn(2) == 0, L: []uint32{d.Uint32() | 1}}
		for range n - 1 {
			out.L = append(out.L, d.Uint32())
		}
		return out
	}
	for _, c := range []struct{ order, degree, words, n int }{{1, 0, 3, 60}, {1, 3, 2, 50}, {2, 0, 2, 60}, {2, 2, 3, 30}, {3, 1, 2, 40}, {6, 0, 1, 60}} {
		var a api.Op
		for range c.order + 1 {
			var q api.Poly
			for range c.degree + 1 {
				q = append(q, number(c.words))
			}
			a = append(a, q)
		}
		var win []api.Rat
		for range c.order {
			win = append(win, api.Rat{Num: number(9), Den: number(9)})
		}
		expect(t, define(t, a, win), c.n)
	}
}
