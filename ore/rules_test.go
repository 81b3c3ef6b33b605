package ore_test

import (
	"math"
	"math/big"
	"testing"

	"ashlar/api"
	"ashlar/limbs"
	"ashlar/ore"
	"ashlar/upoly"
)

func TestNew(t *testing.T) {
	for _, k := range kinds() {
		r := ruleOf(t, k)
		want := new(big.Int)
		if k.algebra == api.QShift {
			want = bigInt(k.q)
		}
		if r.Algebra() != k.algebra || !isInt(r.Q(), want) {
			t.Errorf("P8.1: New of %v: algebra %d, q %v", k, r.Algebra(), r.Q())
		}
	}
}

func TestNewOfNoAlgebra(t *testing.T) {
	for _, algebra := range []int{math.MinInt, -3, -2, -1, 0, 4, 5, 7, 1 << 32, 1<<32 + 1, 1<<32 + 3, math.MaxInt} {
		for _, q := range append(zeros(), qs()...) {
			if r, e := ore.New(algebra, q); r != nil || e != api.ErrKind {
				t.Errorf("P8.1: New of %d: %v, error %d", algebra, r, e)
			}
		}
	}
}

func TestNewOfNoQ(t *testing.T) {
	for _, z := range zeros() {
		if r, e := ore.New(api.QShift, z); r != nil || e != api.ErrZero {
			t.Errorf("P8.1: New with q %v: %v, error %d", z, r, e)
		}
		for _, algebra := range []int{api.Shift, api.Diff} {
			if r, e := ore.New(algebra, z); r == nil || e != api.OK || !isInt(r.Q(), new(big.Int)) {
				t.Errorf("P8.1: New of %d with q %v: %v, error %d", algebra, z, r, e)
			}
		}
	}
}

func TestSigmaAndDelta(t *testing.T) {
	for _, k := range kinds() {
		r := ruleOf(t, k)
		for _, f := range polys() {
			sigma, delta := toBig(f), bigPoly{}
			if k.algebra == api.Diff {
				delta = bigDerived(sigma, 1)
			} else {
				sigma = k.on(1, sigma)
			}
			expectPoly(t, "P8.1: Sigma of "+k.String()+" of "+name(f), r.Sigma(f), sigma)
			expectPoly(t, "P8.1: Delta of "+k.String()+" of "+name(f), r.Delta(f), delta)
		}
	}
}

func TestSigmaAndDeltaOfTheDocument(t *testing.T) {
	for i, want := range [][2]api.Poly{{p(1, 2, 1), nil}, {p(0, 0, 1), p(0, 2)}, {p(0, 0, 4), nil}} {
		r := ruleOf(t, few()[i])
		if s, d := r.Sigma(p(0, 0, 1)), r.Delta(p(0, 0, 1)); !upoly.Eq(s, want[0]) || !upoly.Eq(d, want[1]) {
			t.Errorf("P8.1: algebra %d: %v, %v", r.Algebra(), s, d)
		}
	}
}

// The rule says X p = sigma(p) X + delta(p).
func TestTheRuleItself(t *testing.T) {
	letter := api.Op{nil, p(1)}
	for _, k := range kinds() {
		r := ruleOf(t, k)
		for _, f := range polys() {
			got, e := r.Mul(letter, api.Op{f})
			if e != api.OK || !ore.Eq(got, api.Op{r.Delta(f), r.Sigma(f)}) {
				t.Errorf("P8.1: the letter of %v times %s: %v, error %d", k, name(f), got, e)
			}
		}
	}
}

// Sigma has no limit.
func TestSigmaOfGreatOnes(t *testing.T) {
	one := big.NewInt(1)
	q := new(big.Int).Sub(new(big.Int).Lsh(one, 40), one)
	r := ruleOf(t, kind{api.QShift, fromBig(q)})
	for _, powers := range [][]int{{30000}, {30001}, {1, 2, 3, 64, 65, 27000}, {0, 32767, 32768}} {
		f := make(api.Poly, powers[len(powers)-1]+1)
		want := zeroes(len(f))
		for i, n := range powers {
			f[n] = limbs.Of(int64(3 - 2*i))
			want[n].Exp(q, big.NewInt(int64(n)), nil).Mul(want[n], bigInt(f[n]))
		}
		got := r.Sigma(paddedPoly(f))
		if len(got) != len(f) {
			t.Fatalf("P8.1: Sigma of degree %d: %d entries", len(f)-1, len(got))
		}
		for _, n := range powers {
			// Both are long: a quick look at their ends will do, with a prime.
			if limbs.Bits(got[n]) != want[n].BitLen() {
				t.Errorf("P8.1: Sigma at power %d: %d bits", n, limbs.Bits(got[n]))
			}
			m, _ := limbs.Mod(got[n], 1<<31-1)
			if m != new(big.Int).Mod(want[n], big.NewInt(1<<31-1)).Int64() {
				t.Errorf("P8.1: Sigma at power %d: another number", n)
			}
		}
	}
	steep := make(api.Poly, 400)
	for i := range steep {
		steep[i] = limbs.Of(int64(i*i - 90*i + 7))
	}
	shift := kind{api.Shift, api.Int{}}
	expectPoly(t, "P8.1: Sigma of degree 399", ruleOf(t, shift).Sigma(steep), shift.on(1, toBig(steep)))
}

func TestANilRule(t *testing.T) {
	for _, r := range []*ore.Rule{nil, {}} {
		if r.Algebra() != 0 || !isInt(r.Q(), new(big.Int)) {
			t.Errorf("P8.4: a nil rule: algebra %d, q %v", r.Algebra(), r.Q())
		}
		for _, f := range polys() {
			if s, d := r.Sigma(f), r.Delta(f); len(s)+len(d) > 0 {
				t.Errorf("P8.4: a nil rule: Sigma %v, Delta %v", s, d)
			}
			for _, a := range append(plain(), sized(0, 0, 1<<20)) {
				if g, e := r.Apply(a, f); len(g) > 0 || e != api.ErrArg {
					t.Errorf("P8.4: a nil rule: Apply %v, error %d", g, e)
				}
			}
		}
		for _, a := range append(samples(), sized(2000, 0, 1)) {
			if m, e := r.Mul(a, a); len(m) > 0 || e != api.ErrArg {
				t.Errorf("P8.4: a nil rule: Mul %v, error %d", m, e)
			}
			for _, n := range []int{-1, 0, 1, 2, 64, 65} {
				if m, e := r.Power(a, n); len(m) > 0 || e != api.ErrArg {
					t.Errorf("P8.4: a nil rule: Power %d %v, error %d", n, m, e)
				}
			}
		}
	}
}
