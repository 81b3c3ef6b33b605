package split_test

import (
	"math"
	"math/big"
	"math/rand"
	"reflect"
	"testing"

	"ashlar/api"
	"ashlar/limbs"
	"ashlar/seq"
	"ashlar/split"
)

func TestStepExamples(t *testing.T) {
	m, d, e := split.Step(fibonacci(t), 0)
	if want := (matrix{{big.NewInt(0), big.NewInt(1)}, {big.NewInt(1), big.NewInt(1)}}); e != api.OK || !isMatrix(m, want) || !isInt(d, big.NewInt(1)) {
		t.Errorf("P13.2: Step(Fibonacci, 0): %v, %v, %d", m, d, e)
	}
	// 2 + 3n + n^2, -(0 - n), -1 at 4.
	m, d, e = split.Step(pair{api.Op{p(1), p(0, -1), p(2, 3, 1)}, values(1, 1)}.define(t), 4)
	if want := (matrix{{big.NewInt(0), big.NewInt(30)}, {big.NewInt(-1), big.NewInt(4)}}); e != api.OK || !isMatrix(m, want) || !isInt(d, big.NewInt(30)) {
		t.Errorf("P13.2: Step at 4: %v, %v, %d", m, d, e)
	}
}

func TestStepsOfAllKinds(t *testing.T) {
	for _, c := range plainPairs() {
		s := c.define(t)
		for _, k := range []int{-1, 0, 1, 2, 3, 4, 5, 6, 7, 8, 9, 10, 99, 4095, 4096, 4097} {
			expectStep(t, s, k)
		}
	}
}

// d times the vector at n + 1 is M times the vector at n, within the window too.
func TestStepsLead(t *testing.T) {
	for _, plain := range plainPairs() {
		for _, c := range []pair{plain, plain.longer(7)} {
			s := c.define(t)
			values := modelOf(s).values(60)
			for n := range 60 - s.Order() {
				m, d, e := split.Step(s, n)
				if e == api.OK && !toMatrix(m).leads(bigInt(d), values, n, n+1) {
					t.Errorf("P13.2: Step(%s, %d): %v, %v does not lead on", modelOf(s), n, toMatrix(m), bigInt(d))
				}
				if free := s.Free(n + s.Order()); free != (e == api.ErrIndex) {
					t.Errorf("P13.2: Step(%s, %d): error %d, and the index behind it is free: %v", modelOf(s), n, e, free)
				}
			}
		}
	}
}

func TestSingularSteps(t *testing.T) {
	s := filled(api.Op{p(2), p(0, 1), at(3, 7, 7, -2)}, 10, values(1, 2, 3, 4)).define(t)
	for k := range 20 {
		want := api.OK
		if k == 3 || k == 7 {
			want = api.ErrIndex
		}
		if e := expectStep(t, s, k); e != want {
			t.Errorf("P13.2: Step at %d: %d, not %d", k, e, want)
		}
	}
	// The last numbers that a window of 4,096 values leaves to be singular.
	far := farFree(t)
	for k, want := range map[int]api.Errno{4093: api.OK, 4094: api.ErrIndex, 4095: api.OK, 4096: api.OK, 4097: api.ErrArg} {
		if e := expectStep(t, far, k); e != want {
			t.Errorf("P13.2: Step at %d: %d, not %d", k, e, want)
		}
	}
}

// ErrArg comes ahead of ErrIndex; there is no other error.
func TestStepArguments(t *testing.T) {
	var all []*seq.Seq
	for _, c := range pairsOfNoOrder() {
		all = append(all, c.define(t))
	}
	for _, s := range append(all, nil, &seq.Seq{}, seq.Poly(nil)) {
		for _, k := range []int{math.MinInt, -1, 0, 1, 3, 4096, 4097, math.MaxInt} {
			if e := expectStep(t, s, k); e != api.ErrArg {
				t.Errorf("P13.2: Step(%s, %d): %d", modelOf(s), k, e)
			}
		}
	}
	for _, s := range []*seq.Seq{fibonacci(t), factorials(t), seq.Const(over(1, 3)), seq.Poly(p(1, 2, 3))} {
		for _, k := range []int{math.MinInt, -4097, -2, -1, 4097, 4098, math.MaxInt} {
			if e := expectStep(t, s, k); e != api.ErrArg {
				t.Errorf("P13.2: Step(%s, %d): %d", modelOf(s), k, e)
			}
		}
	}
}

// A step is told where values are refused.
func TestStepsAreNotTooGreat(t *testing.T) {
	long := pair{opOf(3, 2, 43000), values(1, 2, 3)}.define(t)
	wide := seq.Const(api.Rat{Num: bitsOf(1 << 21), Den: limbs.Of(1)})
	for _, s := range []*seq.Seq{long, wide, seq.Poly(power(60)), seq.Poly(power(400))} {
		for _, k := range []int{0, 1, 17, 4095, 4096} {
			if e := expectStep(t, s, k); e != api.OK {
				t.Errorf("P13.2: Step(%s, %d): %d", modelOf(s), k, e)
			}
		}
	}
}

func TestStepsOfConstantsAndPolynomials(t *testing.T) {
	for _, s := range []*seq.Seq{seq.Const(over(0, 1)), seq.Const(over(-7, 3)), seq.Poly(p(5)), seq.Poly(p(0, 1)), seq.Poly(p(1, 0, 4)), seq.Poly(power(9))} {
		for _, k := range []int{0, 1, 5, 4096} {
			expectStep(t, s, k)
		}
	}
}

func TestRandomSteps(t *testing.T) {
	d := rand.New(rand.NewSource(131))
	for range 200 {
		s := randomPair(d, d.Intn(5)).define(t)
		for k := range 14 {
			expectStep(t, s, k)
		}
	}
	for range 30 {
		s := longPair(d, 1+d.Intn(4), d.Intn(3), 1+d.Intn(4)).define(t)
		expectStep(t, s, d.Intn(4097))
	}
}

// Forms that are not normal say the same.
func TestStepsOfForms(t *testing.T) {
	for _, c := range plainPairs() {
		plain, other := c.define(t), pair{padded(c.a), raised(c.win)}.define(t)
		for k := range 12 {
			m, d, e := split.Step(plain, k)
			n, f, g := split.Step(other, k)
			if !reflect.DeepEqual(m, n) || !reflect.DeepEqual(d, f) || e != g {
				t.Errorf("P13.2: Step(%s, %d): %v, %v, %d, in another form %v, %v, %d", modelOf(plain), k, m, d, e, n, f, g)
			}
		}
	}
}
