package ratfun_test

import (
	"fmt"
	"math/big"
	"testing"

	"ashlar/api"
	"ashlar/limbs"
	"ashlar/ratfun"
	"ashlar/upoly"
)

// expectValue holds an answer against the normal form at x.
func expectValue(t *testing.T, f api.Fun, x api.Int) {
	t.Helper()
	normal := bigNorm(toBigFun(f))
	at := bigInt(x)
	want, wantError := new(big.Rat), api.ErrZero
	if den := bigEval(normal.den, at); den.Sign() != 0 {
		want, wantError = new(big.Rat).SetFrac(bigEval(normal.num, at), den), api.OK
	}
	got, e := ratfun.Eval(f, x)
	if e != wantError || !isInt(got.Num, want.Num()) || !isInt(got.Den, want.Denom()) {
		t.Errorf("P5.1: Eval %s at %s: %v, error %d, not %s, %d", name(f), at, got, e, want, wantError)
	}
}

func TestEval(t *testing.T) {
	for _, f := range few() {
		for _, x := range places() {
			expectValue(t, f, x)
			for _, g := range forms(ratfun.Norm(f)) {
				expectValue(t, g, x)
			}
		}
	}
	for _, num := range polys() {
		for _, den := range polys() {
			for _, x := range []int64{0, 1, -1, 3} {
				expectValue(t, api.Fun{Num: num, Den: den}, limbs.Of(x))
			}
		}
	}
}

func TestEvalOfZeros(t *testing.T) {
	for _, z := range zeroFuns() {
		for _, x := range places() {
			got, e := ratfun.Eval(z, x)
			if e != api.OK || !isInt(got.Num, new(big.Int)) || !isInt(got.Den, big.NewInt(1)) {
				t.Errorf("P5.1: Eval %s at %s: %v, error %d", name(z), limbs.Text(x), got, e)
			}
		}
	}
}

// Where Num and Den are both zero it hangs on how often: what is left tells.
func TestEvalWhereBothAreZero(t *testing.T) {
	for _, x := range places() {
		factor := api.Poly{limbs.Neg(x), limbs.Of(1)}
		powers := []api.Poly{upoly.Of(1)}
		for i := range 3 {
			powers = append(powers, upoly.Mul(powers[i], factor))
		}
		for i, num := range powers {
			for j, den := range powers {
				f := api.Fun{Num: upoly.Mul(num, upoly.Of(-6)), Den: upoly.Mul(den, upoly.Of(4))}
				want := "error"
				switch {
				case i == j:
					want = "-3/2"
				case i > j:
					want = "0/1"
				}
				if got := told(f, x); got != want {
					t.Errorf("P5.1: Eval %s at %s: %s, not %s", name(f), limbs.Text(x), got, want)
				}
			}
		}
	}
}

func told(f api.Fun, x api.Int) string {
	v, e := ratfun.Eval(f, x)
	if e == api.ErrZero && len(v.Num.L) == 0 && isInt(v.Den, big.NewInt(1)) {
		return "error"
	}
	return fmt.Sprint(bigInt(v.Num), "/", bigInt(v.Den))
}

func TestEvalExamples(t *testing.T) {
	one, x := upoly.Of(1), upoly.Of(0, 1)
	for _, c := range []struct {
		num, den api.Poly
		at       int64
		want     string
	}{
		{one, x, 0, "error"}, {x, x, 0, "1/1"}, {x, one, 0, "0/1"}, {one, x, -4, "-1/4"},
		{upoly.Of(2, 2), upoly.Of(-1, 0, 1), 1, "error"}, {upoly.Of(2, 2), upoly.Of(-1, 0, 1), -1, "-1/1"},
		{upoly.Of(1, 1), upoly.Of(0, 2), 3, "2/3"}, {one, upoly.Of(-2), 9, "-1/2"},
	} {
		f := api.Fun{Num: c.num, Den: c.den}
		if got := told(f, limbs.Of(c.at)); got != c.want {
			t.Errorf("P5.1: Eval %s at %d: %s, not %s", name(f), c.at, got, c.want)
		}
	}
}
