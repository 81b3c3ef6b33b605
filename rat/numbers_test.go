package rat_test

import (
	"math"
	"math/big"
	"testing"

	"ashlar/api"
	"ashlar/limbs"
	"ashlar/rat"
)

func TestOf(t *testing.T) {
	parts := []int64{math.MinInt64, math.MinInt64 + 1, -1 << 32, -6, -4, -1, 0, 1, 2, 4, 6, 1 << 31, 1 << 32, math.MaxInt64}
	for _, num := range parts {
		for _, den := range parts {
			got, e := rat.Of(num, den)
			what := "P2.1: Of " + big.NewInt(num).String() + " over " + big.NewInt(den).String()
			if den == 0 {
				expectError(t, what, got, e, api.ErrZero)
				continue
			}
			if e != api.OK {
				t.Errorf("%s: error %d", what, e)
			}
			// big.NewRat goes wrong at -2^63.
			expect(t, what, got, new(big.Rat).SetFrac(big.NewInt(num), big.NewInt(den)))
		}
	}
}

func TestOver(t *testing.T) {
	for _, a := range samples() {
		got, e := rat.Over(a.Num, a.Den)
		what := "P2.1: Over " + name(a)
		if limbs.Sign(a.Den) == 0 {
			expectError(t, what, got, e, api.ErrZero)
			continue
		}
		if e != api.OK {
			t.Errorf("%s: error %d", what, e)
		}
		expect(t, what, got, bigRat(a))
	}
}

func TestWhole(t *testing.T) {
	for _, a := range samples() {
		got, ok := rat.Whole(a)
		want := bigRat(a)
		if ok != want.IsInt() {
			t.Errorf("P2.1: Whole %s: %t", name(a), ok)
		}
		if !ok {
			want.SetInt64(0)
		}
		if !isInt(got, want.Num()) {
			t.Errorf("P2.1: Whole %s: %v", name(a), got)
		}
	}
}

func TestWholeOfManyForms(t *testing.T) {
	for _, a := range forms(limbs.Of(-12), limbs.Of(4)) {
		if got, ok := rat.Whole(a); !ok || !isInt(got, big.NewInt(-3)) {
			t.Errorf("P2.1: Whole %s: %v, %t", name(a), got, ok)
		}
	}
	for _, a := range forms(limbs.Of(-12), limbs.Of(8)) {
		if got, ok := rat.Whole(a); ok || !isInt(got, new(big.Int)) {
			t.Errorf("P2.1: Whole %s: %v, %t", name(a), got, ok)
		}
	}
}

func TestNormAndBits(t *testing.T) {
	for _, a := range samples() {
		want := bigRat(a)
		expect(t, "P2.1: Norm "+name(a), rat.Norm(a), want)
		if n := want.Num().BitLen() + want.Denom().BitLen(); rat.Bits(a) != n {
			t.Errorf("P2.1: Bits %s: %d, not %d", name(a), rat.Bits(a), n)
		}
	}
}

func TestZeroHasTheBitOfItsDen(t *testing.T) {
	for _, a := range []api.Rat{{}, {Num: limbs.Of(7)}, {Den: limbs.Of(8)}, of(t, 0, -4)} {
		if rat.Bits(a) != 1 {
			t.Errorf("P2.1: Bits %s: %d", name(a), rat.Bits(a))
		}
	}
}

func TestPairs(t *testing.T) {
	eachPair(func(a, b api.Rat) {
		what := "of " + name(a) + " and " + name(b)
		x, y := bigRat(a), bigRat(b)
		if got := rat.Cmp(a, b); got != x.Cmp(y) {
			t.Errorf("P2.1: Cmp %s: %d", what, got)
		}
		expect(t, "P2.1: Add "+what, rat.Add(a, b), new(big.Rat).Add(x, y))
		expect(t, "P2.1: Sub "+what, rat.Sub(a, b), new(big.Rat).Sub(x, y))
		expect(t, "P2.1: Mul "+what, rat.Mul(a, b), new(big.Rat).Mul(x, y))
		got, e := rat.Quo(a, b)
		if y.Sign() == 0 {
			expectError(t, "P2.1: Quo "+what, got, e, api.ErrZero)
			return
		}
		if e != api.OK {
			t.Errorf("P2.1: Quo %s: error %d", what, e)
		}
		expect(t, "P2.1: Quo "+what, got, new(big.Rat).Quo(x, y))
	})
}

func TestQuotientByZeroInAllForms(t *testing.T) {
	for _, z := range zeros() {
		for _, b := range []api.Rat{{Num: z, Den: limbs.Of(2)}, {Num: limbs.Of(2), Den: z}, {Num: z, Den: z}} {
			for _, a := range []api.Rat{of(t, 3, 4), {}, {Num: limbs.Of(1), Den: z}} {
				got, e := rat.Quo(a, b)
				expectError(t, "P2.1: Quo "+name(a)+" by "+name(b), got, e, api.ErrZero)
			}
		}
	}
}

func TestEqualInAllForms(t *testing.T) {
	for _, a := range forms(limbs.Of(-3), limbs.Of(2)) {
		for _, b := range forms(limbs.Of(6), limbs.Of(-4)) {
			if rat.Cmp(a, b) != 0 {
				t.Errorf("P2.1: Cmp of %s and %s: %d", name(a), name(b), rat.Cmp(a, b))
			}
		}
	}
}
