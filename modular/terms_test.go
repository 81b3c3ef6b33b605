package modular_test

import (
	"math/big"
	"math/rand"
	"testing"

	"ashlar/api"
	"ashlar/limbs"
	"ashlar/modular"
	"ashlar/seq"
)

func expectValue(t *testing.T, s *seq.Seq, n int, p, want int64) {
	t.Helper()
	if r, e := modular.Term(s, n, p); r != want || e != api.OK {
		t.Errorf("P14.2: Term(%s, %d, %d): %d, %d, not %d", modelOf(s), n, p, r, e, want)
	}
}

func TestExamplesOfTerms(t *testing.T) {
	far, _ := new(big.Int).SetString("354224848179261915075", 10)
	expectValue(t, fibonacci(t), 100, 1000003, far.Mod(far, big.NewInt(1000003)).Int64())
	for n := range 5 {
		expectValue(t, inverses(t), n, 5, []int64{1, 1, 3, 1, 4}[n])
	}
	// Of x S - 1, 0 is singular: 1 is free, and behind it stands 1 over (n - 1)!.
	s := pair{api.Op{p(-1), p(0, 1)}, values(0, 1)}.define(t)
	for n, want := range []int64{0, 1, 1, 4, 6, 5, 1} {
		expectValue(t, s, n, 7, want)
	}
	expectRefusal(t, s, 8, 7, api.ErrPrime)
}

// All kinds of sequences, modulo primes that are bad for some and fine for others.
func TestTermsOfAllKinds(t *testing.T) {
	told := map[api.Errno]int{}
	for _, c := range append(plainPairs(), pairsOfNoOrder()...) {
		for e, n := range expectTerms(t, c.define(t), 60, fewPrimes()) {
			told[e] += n
		}
	}
	if told[api.OK] < 5000 || told[api.ErrPrime] < 5000 {
		t.Errorf("too few of some kind: %v", told)
	}
}

// Windows that are longer than they need be: relations within them are not asked,
// but all their values are.
func TestTermsBehindLongWindows(t *testing.T) {
	for _, c := range append(plainPairs(), pairsOfNoOrder()...) {
		for _, by := range []int{1, 2, 5, 20} {
			expectTerms(t, c.longer(by).define(t), len(c.win)+by+6, []int64{2, 3, 5, 7, 13, 1000003})
		}
	}
}

// Forms that are not normal say the same.
func TestTermsOfForms(t *testing.T) {
	for _, c := range plainPairs() {
		s := c.define(t)
		for _, other := range []pair{{padded(c.a), c.win}, {c.a, raised(c.win)}, {padded(c.a), raised(c.win)}} {
			o := other.define(t)
			for n := range 30 {
				for _, p := range fewPrimes() {
					r, e := modular.Term(s, n, p)
					if q, f := modular.Term(o, n, p); q != r || f != e {
						t.Errorf("P14.2: Term(%s, %d, %d): %d, %d, in another form %d, %d", modelOf(s), n, p, r, e, q, f)
					}
				}
			}
		}
	}
}

// Values that are known without the relation.
func TestKnownValues(t *testing.T) {
	powers := pair{api.Op{p(-3), p(2)}, []api.Rat{over(5, 7)}}.define(t)
	catalan := pair{api.Op{p(-2, -4), p(2, 1)}, values(1)}.define(t)
	for n := range int64(120) {
		power := new(big.Rat).SetFrac(new(big.Int).Exp(big.NewInt(3), big.NewInt(n), nil), new(big.Int).Exp(big.NewInt(2), big.NewInt(n), nil))
		power.Mul(power, big.NewRat(5, 7))
		fact := new(big.Int).MulRange(1, n)
		for _, p := range fewPrimes() {
			expectTerm(t, powers, int(n), p, power)
			expectTerm(t, factorials(t), int(n), p, new(big.Rat).SetInt(fact))
			expectTerm(t, inverses(t), int(n), p, new(big.Rat).SetFrac(big.NewInt(1), fact))
			expectTerm(t, catalan, int(n), p, new(big.Rat).SetFrac(new(big.Int).Binomial(2*n, n), big.NewInt(n+1)))
		}
	}
}

// The last index that is told, by other roads.
func TestTheGreatestIndex(t *testing.T) {
	a, b := big.NewInt(0), big.NewInt(1)
	for range 4095 {
		a, b = b, new(big.Int).Add(a, b)
	}
	squares := seq.Poly(p(7, 0, 1))
	for _, p := range fewPrimes() {
		expectValue(t, fibonacci(t), 4095, p, new(big.Int).Mod(a, big.NewInt(p)).Int64())
		expectValue(t, fibonacci(t), 4096, p, new(big.Int).Mod(b, big.NewInt(p)).Int64())
		expectRefusal(t, fibonacci(t), 4097, p, api.ErrIndex)
		expectValue(t, squares, 4096, p, (4096*4096+7)%p)
		expectValue(t, nil, 4096, p, 0)
	}
	// 4098! is -1 modulo 4099 (Wilson): 4096! is -1 over 4098 times 4097, which is 2.
	expectValue(t, factorials(t), 4096, 4099, 2049)
	expectValue(t, inverses(t), 4096, 4099, 4097)
	expectValue(t, factorials(t), 4092, 4093, 4092)
	expectValue(t, factorials(t), 4093, 4093, 0)
	expectValue(t, inverses(t), 4092, 4093, 4092)
	expectRefusal(t, inverses(t), 4093, 4093, api.ErrPrime)
	expectRefusal(t, inverses(t), 4096, 4093, api.ErrPrime)
	third := seq.Const(over(-1, 3))
	expectValue(t, third, 4096, 7, 2)
	expectRefusal(t, third, 4096, 3, api.ErrPrime)
}

// A window of 4,096 values: only one index stands behind it.
func TestTheLongestWindow(t *testing.T) {
	s := pair{api.Op{p(-4), at(4094)}, append(make([]api.Rat, 4095), over(5, 3))}.define(t)
	// The leading entry at 4,095, behind the window, is 1.
	for _, p := range []int64{2, 5, 7, 4091, 1<<31 - 1} {
		for _, n := range []int{0, 1, 4094} {
			expectValue(t, s, n, p, 0)
		}
		expectTerm(t, s, 4095, p, big.NewRat(5, 3))
		expectTerm(t, s, 4096, p, big.NewRat(20, 3))
		expectRefusal(t, s, 4097, p, api.ErrIndex)
	}
	for _, n := range []int{0, 1, 4095, 4096} {
		expectRefusal(t, s, n, 3, api.ErrPrime)
	}
}

// The value behind a free one comes of it, whatever the relation ahead says.
func TestTermsBehindFreeValues(t *testing.T) {
	for _, free := range []int64{-4, 0, 7, 8} {
		s := pair{api.Op{p(0, -1), at(2)}, values(1, 0, 0, free)}.define(t)
		expectTerms(t, s, 12, fewPrimes())
		// From there on, (n - 1) (n - 2) over 2 times the free value.
		expectTerm(t, s, 20, 101, big.NewRat(171*free, 1))
		expectTerm(t, s, 20, 1000003, big.NewRat(171*free, 1))
	}
}

func TestConstantsAndPolynomials(t *testing.T) {
	for _, v := range append(raised(values(0, 3, 9)), over(0, 1), over(-22, 7), raw(10, 5), raw(6, -14), api.Rat{Num: bitsOf(200), Den: limbs.Of(3)}) {
		s := seq.Const(v)
		for _, n := range []int{0, 1, 2, 700, 4096} {
			for _, p := range fewPrimes() {
				expectTerm(t, s, n, p, bigRat(v))
			}
		}
	}
	for _, q := range []api.Poly{nil, p(0), p(5), p(1, 2, 3), power(5), {bitsOf(100), limbs.Of(-4)}, append(power(14), bitsOf(3)), {wide(limbs.Of(4)), wide(limbs.Of(0)), {}}} {
		s := seq.Poly(q)
		for _, n := range []int{0, 1, 2, 14, 15, 16, 17, 300, 1000} {
			for _, p := range fewPrimes() {
				expectTerm(t, s, n, p, new(big.Rat).SetInt(toBig(q).at(n)))
			}
		}
	}
}

// A sequence that is none is that of the operator 1 without a window.
func TestNoSequence(t *testing.T) {
	for _, s := range []*seq.Seq{nil, {}, seq.Poly(nil)} {
		for _, p := range fewPrimes() {
			for _, n := range []int{0, 1, 2, 7, 4095, 4096} {
				expectValue(t, s, n, p, 0)
				expectTerm(t, s, n, p, new(big.Rat))
			}
			expectRefusal(t, s, -1, p, api.ErrIndex)
			expectRefusal(t, s, 4097, p, api.ErrIndex)
		}
		expectRefusal(t, s, 0, 1, api.ErrArg)
	}
}

// Zero, told in many ways: a bad prime is one, though no value hangs on it.
func TestZeroSequences(t *testing.T) {
	for _, s := range []*seq.Seq{
		seq.Const(api.Rat{}), seq.Poly(api.Poly{{}}), pair{api.Op{p(-1), p(-1), p(1)}, values(0, 0)}.define(t),
		pair{api.Op{p(1, 1), p(5), p(10)}, values(0, 0)}.define(t), pair{api.Op{p(14)}, nil}.define(t), pair{api.Op{p(3, 5)}, values(0, 0, 0)}.define(t),
		pair{api.Op{p(1), p(3, 1)}, values(0)}.define(t), pair{api.Op{p(7), at(2)}, values(0, 0, 0, 0)}.define(t),
	} {
		told := expectTerms(t, s, 40, fewPrimes())
		if told[api.OK] == 0 {
			t.Errorf("P14.2: of %s: %v", modelOf(s), told)
		}
	}
	expectRefusal(t, pair{api.Op{p(14)}, nil}.define(t), 0, 7, api.ErrPrime)
	expectValue(t, pair{api.Op{p(14)}, nil}.define(t), 0, 5, 0)
	expectRefusal(t, pair{api.Op{p(1, 1), p(5), p(10)}, values(0, 0)}.define(t), 2, 5, api.ErrPrime)
}

func TestRandomSequences(t *testing.T) {
	d := rand.New(rand.NewSource(144))
	told := map[api.Errno]int{}
	some := []int64{2, 3, 5, 7, 11, 13, 17, 19, 23, 29, 31, 37, 41, 43, 47, 53, 59, 61, 67, 71}
	for range 300 {
		c := randomPair(d, d.Intn(5))
		s := c.define(t)
		m := modelOf(s)
		values := m.values(len(c.win) + 60)
		for range 20 {
			n := d.Intn(len(values))
			told[expectTerm(t, s, n, some[d.Intn(len(some))], values[n])]++
		}
	}
	if told[api.OK] < 1000 || told[api.ErrPrime] < 1000 {
		t.Errorf("too few of some kind: %v", told)
	}
}

// Entries and values of many words.
func TestLongSequences(t *testing.T) {
	d := rand.New(rand.NewSource(145))
	for _, order := range []int{1, 2, 3, 4, 7, 20} {
		s := longPair(d, order, d.Intn(3), 1+d.Intn(3)).define(t)
		expectTerms(t, s, order+30, []int64{2, 3, 7, 1000003, 1<<31 - 19, 1<<31 - 1})
	}
}

// Values far out, which unroll.Term tells too.
func TestTermsFarOut(t *testing.T) {
	for _, c := range plainPairs() {
		s := c.define(t)
		m := modelOf(s)
		for _, n := range []int{300, 777, 1500} {
			for _, p := range []int64{1000003, 1<<31 - 1} {
				r, e := modular.Term(s, n, p)
				if want := m.refused(n, p); e != want {
					t.Errorf("P14.2: Term(%s, %d, %d): %d, not %d", m, n, p, e, want)
				}
				if e == api.OK {
					expectUnrolled(t, s, n, p, r)
				}
			}
		}
	}
}
