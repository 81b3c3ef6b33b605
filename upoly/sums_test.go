package upoly_test

import (
	"math"
	"math/big"
	"slices"
	"testing"

	"ashlar/api"
	"ashlar/limbs"
	"ashlar/upoly"
)

func TestOf(t *testing.T) {
	for _, ns := range [][]int64{
		nil, {0}, {0, 0, 0}, {5}, {-5, 0}, {0, 0, 7}, {1, 0, -2, 0, 0},
		{math.MinInt64, math.MaxInt64, -1 << 32, 1 << 31},
	} {
		expectOf(t, "P3.1: Of", upoly.Of(ns...), ns...)
	}
}

func TestNorm(t *testing.T) {
	for _, p := range samples() {
		expect(t, "P3.1: Norm "+name(p), upoly.Norm(p), toBig(p))
	}
}

func TestDegAndLeadAndBits(t *testing.T) {
	for _, p := range samples() {
		want := toBig(p)
		if got := upoly.Deg(p); got != len(want)-1 {
			t.Errorf("P3.1: Deg %s: %d", name(p), got)
		}
		lead, most := new(big.Int), 0
		if len(want) > 0 {
			lead = want[len(want)-1]
		}
		for _, c := range want {
			most = max(most, c.BitLen())
		}
		if got := upoly.Lead(p); !isInt(got, lead) {
			t.Errorf("P3.1: Lead %s: %v", name(p), got)
		}
		if got := upoly.Bits(p); got != most {
			t.Errorf("P3.1: Bits %s: %d, not %d", name(p), got, most)
		}
	}
}

func TestZeroInAllForms(t *testing.T) {
	for _, z := range zeroForms() {
		if upoly.Deg(z) != -1 || upoly.Bits(z) != 0 || !isInt(upoly.Lead(z), new(big.Int)) {
			t.Errorf("P3.1: zero as %v: %d, %d, %v", z, upoly.Deg(z), upoly.Bits(z), upoly.Lead(z))
		}
		for _, p := range zeroForms() {
			if !upoly.Eq(z, p) || upoly.Eq(z, upoly.Of(1)) || upoly.Eq(upoly.Of(0, 1), z) {
				t.Errorf("P3.1: Eq %v and %v", z, p)
			}
		}
		p := upoly.Of(2, -3)
		expectOf(t, "P3.1: Norm", upoly.Norm(z))
		expectOf(t, "P3.1: Add", upoly.Add(p, z), 2, -3)
		expectOf(t, "P3.1: Add", upoly.Add(z, p), 2, -3)
		expectOf(t, "P3.1: Sub", upoly.Sub(p, z), 2, -3)
		expectOf(t, "P3.1: Sub", upoly.Sub(z, p), -2, 3)
		expectOf(t, "P3.1: Mul", upoly.Mul(z, p))
		expectOf(t, "P3.1: Mul", upoly.Mul(p, z))
		expectOf(t, "P3.1: Scale", upoly.Scale(z, limbs.Of(5)))
		expectOf(t, "P3.1: Deriv", upoly.Deriv(z))
	}
}

func TestEq(t *testing.T) {
	eachPair(func(p, q api.Poly) {
		same := func(a, b *big.Int) bool { return a.Cmp(b) == 0 }
		want := slices.EqualFunc(toBig(p), toBig(q), same)
		if upoly.Eq(p, q) != want {
			t.Errorf("P3.1: Eq %s and %s: %t", name(p), name(q), !want)
		}
	})
	for _, p := range samples() {
		for _, q := range forms(upoly.Norm(p)) {
			if !upoly.Eq(p, q) {
				t.Errorf("P3.1: Eq %v and %v", p, q)
			}
		}
	}
}

func TestSums(t *testing.T) {
	eachPair(func(p, q api.Poly) {
		a, b := toBig(p), toBig(q)
		what := name(p) + " and " + name(q)
		expect(t, "P3.1: Add "+what, upoly.Add(p, q), bigAdd(a, b))
		expect(t, "P3.1: Sub "+what, upoly.Sub(p, q), bigAdd(a, bigScale(b, big.NewInt(-1))))
	})
}

func TestWhatCancelsAtTheEnd(t *testing.T) {
	expectOf(t, "P3.1: Add", upoly.Add(upoly.Of(1, 2, 3), upoly.Of(0, 5, -3)), 1, 7)
	expectOf(t, "P3.1: Add", upoly.Add(upoly.Of(1, 2, 3), upoly.Of(-1, -2, -3)))
	expectOf(t, "P3.1: Sub", upoly.Sub(upoly.Of(1, 0, 3), upoly.Of(2, 0, 3)), -1)
}

func TestScale(t *testing.T) {
	for _, p := range samples() {
		for _, a := range append(zeros(), limbs.Of(1), limbs.Of(-1), padded(limbs.Of(-12)), parse("99999999999999999999999")) {
			expect(t, "P3.1: Scale "+name(p), upoly.Scale(p, a), bigScale(toBig(p), bigInt(a)))
		}
	}
}

func TestDeriv(t *testing.T) {
	expectOf(t, "P3.1: Deriv", upoly.Deriv(upoly.Of(0, 0, 0, 1)), 0, 0, 3)
	expectOf(t, "P3.1: Deriv", upoly.Deriv(upoly.Of(7)))
	for _, p := range samples() {
		want := bigPoly{}
		for i, c := range toBig(p) {
			if i > 0 {
				want = append(want, new(big.Int).Mul(c, big.NewInt(int64(i))))
			}
		}
		expect(t, "P3.1: Deriv "+name(p), upoly.Deriv(p), want)
	}
}
