package upoly_test

import (
	"math/big"
	"math/rand"
	"slices"
	"testing"

	"ashlar/api"
	"ashlar/limbs"
	"ashlar/rat"
	"ashlar/upoly"
)

func bigEval(p bigPoly, x *big.Rat) *big.Rat {
	v := new(big.Rat)
	for _, c := range slices.Backward(p) {
		v.Mul(v, x).Add(v, new(big.Rat).SetInt(c))
	}
	return v
}

func bigRat(x api.Rat) *big.Rat {
	if limbs.Sign(x.Den) == 0 {
		return new(big.Rat)
	}
	return new(big.Rat).SetFrac(bigInt(x.Num), bigInt(x.Den))
}

// places are integers at which polynomials are told.
func places() []api.Int {
	out := append(zeros(), padded(limbs.Of(-7)))
	for _, s := range []string{"1", "-1", "2", "-2", "4294967296", "-18446744073709551615", "99999999999999999999999999999"} {
		out = append(out, parse(s))
	}
	return out
}

func TestEval(t *testing.T) {
	for _, p := range samples() {
		for _, x := range places() {
			want := bigEval(toBig(p), new(big.Rat).SetInt(bigInt(x)))
			if got := upoly.Eval(p, x); !isInt(got, want.Num()) {
				t.Errorf("P3.1: Eval %s at %s: %v", name(p), limbs.Text(x), got)
			}
		}
	}
}

// expectRat holds an answer against a number, in normal form: big.Rat keeps
// lowest terms over a Den above 0, and zero as 0 over 1.
func expectRat(t *testing.T, what string, got api.Rat, want *big.Rat) {
	t.Helper()
	if !isInt(got.Num, want.Num()) || !isInt(got.Den, want.Denom()) {
		t.Errorf("%s: %v over %v, not %s", what, got.Num, got.Den, want)
	}
}

func TestEvalRat(t *testing.T) {
	for _, p := range samples() {
		for i, num := range places() {
			for j, den := range places() {
				// Zero in one form a place is enough here.
				if i < len(zeros())-1 && i != j {
					continue
				}
				x := api.Rat{Num: num, Den: den}
				what := "P3.1: EvalRat " + name(p) + " at " + rat.Text(x)
				expectRat(t, what, upoly.EvalRat(p, x), bigEval(toBig(p), bigRat(x)))
			}
		}
	}
}

func TestEvalRatOverZeroAndBelow(t *testing.T) {
	p := upoly.Of(1, 2, 3)
	for _, z := range zeros() {
		// Whatever stands above a Den of 0, the number is 0.
		for _, num := range []api.Int{limbs.Of(5), limbs.Of(-1), z} {
			expectRat(t, "P3.1: EvalRat over 0", upoly.EvalRat(p, api.Rat{Num: num, Den: z}), big.NewRat(1, 1))
		}
	}
	below := api.Rat{Num: limbs.Of(1), Den: limbs.Of(-2)}
	expectRat(t, "P3.1: EvalRat at 1 over -2", upoly.EvalRat(p, below), big.NewRat(3, 4))
	wide := api.Rat{Num: limbs.Of(-6), Den: limbs.Of(-4)}
	expectRat(t, "P3.1: EvalRat at -6 over -4", upoly.EvalRat(p, wide), big.NewRat(43, 4))
	for _, p := range zeroForms() {
		expectRat(t, "P3.1: EvalRat of zero", upoly.EvalRat(p, below), new(big.Rat))
	}
}

func TestEvalRatOfAGreatDegree(t *testing.T) {
	p := random(rand.New(rand.NewSource(17)), 400, 2)
	x := api.Rat{Num: limbs.Of(-1000000007), Den: limbs.Of(998244353)}
	expectRat(t, "P3.1: EvalRat", upoly.EvalRat(p, x), bigEval(toBig(p), bigRat(x)))
}
