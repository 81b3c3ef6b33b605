package sparse_test

import (
	"fmt"
	"math"
	"slices"
	"testing"

	"ashlar/api"
	"ashlar/limbs"
	"ashlar/sparse"
)

func places() []int64 {
	return []int64{
		0, 1, -1, 2, -2, 3, 10, -999, 1<<31 - 2, 1<<31 - 1, 1 << 31, -1 << 31, 1 - 1<<31,
		math.MaxInt64, math.MinInt64, math.MaxInt64 - 1, math.MinInt64 + 1,
	}
}

func moduli() []int64 { return []int64{1, 2, 3, 7, 1000, 65536, 1<<31 - 2, 1<<31 - 1} }

func expectValue(t *testing.T, ts []api.Term, x, m, want int64) {
	t.Helper()
	if got, e := sparse.Eval(ts, x, m); got != want || e != api.OK {
		t.Errorf("P6.2: Eval %s at %d, by %d: %d, error %d, not %d", name(ts), x, m, got, e, want)
	}
}

func TestEvalExamples(t *testing.T) {
	for _, c := range []struct {
		ts         []api.Term
		x, m, want int64
	}{
		{list(2, 5, -1, 1), 3, 1000, 483},
		{list(1, 3), -1, 7, 6},
		{list(-1, 0), 5, 7, 6},
		{list(-7, 0), 5, 7, 0},
		{list(1, 0), 0, 7, 1}, // 0^0 is 1
		{list(1, 0), 7, 7, 1},
		{list(5, 1), 0, 7, 0},
		{list(5, maxExp), 0, 7, 0},
		{list(5, maxExp), -1, 7, 5},
		{list(5, maxExp-1), -1, 7, 2},
		{list(1, maxExp), 2, 3, 1},
		{list(1, 1), math.MinInt64, 1<<31 - 1, 1<<31 - 3},
		{list(1, 1), math.MaxInt64, 1<<31 - 1, 1},
		{list(1, 1), math.MinInt64, 10, 2},
		{list(-1, 1), math.MinInt64, 10, 8},
		{nil, 5, 7, 0},
		{[]api.Term{}, 5, 1, 0},
		{zeroTerms(), 3, 7, 0},
		{list(1, 4, -1, 4), 3, 7, 0},
		{list(4, 4, 3, 4), 3, 7, 0},
		{list(6, 0), 3, 1, 0},
	} {
		expectValue(t, c.ts, c.x, c.m, c.want)
	}
}

func TestEval(t *testing.T) {
	for _, ts := range samples() {
		for i, x := range places() {
			for j, m := range moduli() {
				want := bigValue(ts, x, m)
				expectValue(t, ts, x, m, want)
				expectValue(t, forms(ts)[(i+j)%6], x, m, want)
			}
		}
	}
}

func TestEvalOfEachCoef(t *testing.T) {
	for _, a := range append(numbers(), zeros()...) {
		for _, exp := range []int{0, 1, 2, 31, maxExp - 1, maxExp} {
			for _, m := range moduli() {
				ts := []api.Term{{Coef: padded(a), Exp: exp}}
				expectValue(t, ts, -5, m, bigValue(ts, -5, m))
				expectValue(t, ts, math.MinInt64, m, bigValue(ts, math.MinInt64, m))
			}
		}
	}
}

// By the greatest m, with all that is below it as great as can be, nothing wraps.
func TestEvalAtItsGreatest(t *testing.T) {
	const m = 1<<31 - 1
	ts := slices.Repeat([]api.Term{{Coef: limbs.Of(m - 1), Exp: 1}, {Coef: limbs.Of(m - 1), Exp: maxExp - 1}}, 1000)
	expectValue(t, ts, m-1, m, 2000)
	expectValue(t, ts[1:], m-1, m, 1999)
	expectValue(t, ts, -1, m, 2000)
}

func TestEvalOfProducts(t *testing.T) {
	for _, a := range samples() {
		for _, b := range samples()[:12] {
			product, _ := sparse.Mul(a, b)
			sum, _ := sparse.Add(a, b)
			const x, m = -12345, 1000003
			u, _ := sparse.Eval(a, x, m)
			v, _ := sparse.Eval(b, x, m)
			expectValue(t, product, x, m, u*v%m)
			expectValue(t, sum, x, m, (u+v)%m)
		}
	}
}

func expectNoValue(t *testing.T, ts []api.Term, x, m int64) {
	t.Helper()
	if got, e := sparse.Eval(ts, x, m); got != 0 || e != api.ErrArg {
		t.Errorf("P6.2: Eval %s at %d, by %d: %d, error %d", name(ts), x, m, got, e)
	}
}

func TestEvalByWrongNumbers(t *testing.T) {
	for _, m := range []int64{0, -1, -7, 1 - 1<<31, -1 << 31, 1 << 31, 1<<31 + 1, 1 << 32, 1<<32 + 7, math.MaxInt64, math.MinInt64} {
		for _, ts := range [][]api.Term{nil, {}, list(0, 0), list(1, 0), list(3, 5, 1, maxExp), list(1, -1)} {
			expectNoValue(t, ts, 3, m)
			expectNoValue(t, ts, 0, m)
		}
	}
}

func TestEvalOfExpsThatAreOut(t *testing.T) {
	for _, ts := range outs() {
		for _, x := range []int64{0, 1, -3} {
			for _, m := range []int64{1, 7, 1<<31 - 1} {
				expectNoValue(t, ts, x, m)
			}
		}
	}
}

func ExampleEval() {
	ts, _ := sparse.Mul(list(1, 1000, 1, 0), list(1, 1000, -1, 0))
	v, e := sparse.Eval(ts, 2, 1000)
	fmt.Println(v, e)
	// Output: 375 0
}
