package ratfun_test

import (
	"math/rand"
	"testing"

	"ashlar/api"
	"ashlar/ratfun"
	"ashlar/upoly"
)

func TestSumsAndProducts(t *testing.T) {
	eachPair(func(f, g api.Fun) {
		a, b := toBigFun(f), toBigFun(g)
		left, right, den := bigMul(a.num, b.den), bigMul(b.num, a.den), bigMul(a.den, b.den)
		what := name(f) + " and " + name(g)
		expect(t, "P5.1: Add "+what, ratfun.Add(f, g), bigFun{bigAdd(left, right), den})
		expect(t, "P5.1: Sub "+what, ratfun.Sub(f, g), bigFun{bigAdd(left, bigNeg(right)), den})
		expect(t, "P5.1: Mul "+what, ratfun.Mul(f, g), bigFun{bigMul(a.num, b.num), den})
	})
}

func TestQuo(t *testing.T) {
	eachPair(func(f, g api.Fun) {
		a, b := toBigFun(f), toBigFun(g)
		got, e := ratfun.Quo(f, g)
		what := "P5.1: Quo " + name(f) + " and " + name(g)
		want := api.OK
		if len(b.num) == 0 {
			want = api.ErrZero
			expectZero(t, what, got)
		} else {
			expect(t, what, got, bigFun{bigMul(a.num, b.den), bigMul(a.den, b.num)})
		}
		if e != want {
			t.Errorf("%s: error %d", what, e)
		}
	})
}

func TestQuoByZero(t *testing.T) {
	for _, z := range zeroFuns() {
		for _, f := range append(few(), z) {
			got, e := ratfun.Quo(f, z)
			what := "P5.1: Quo " + name(f) + " and " + name(z)
			expectZero(t, what, got)
			if e != api.ErrZero {
				t.Errorf("%s: error %d", what, e)
			}
		}
	}
}

func TestReckoningWithZero(t *testing.T) {
	f := api.Fun{Num: upoly.Of(2, -4), Den: upoly.Of(0, -6)}
	num, den := small(-1, 2), small(0, 3)
	for _, z := range zeroFuns() {
		expectOver(t, "P5.1: Add "+name(z), ratfun.Add(f, z), num, den)
		expectOver(t, "P5.1: Add "+name(z), ratfun.Add(z, f), num, den)
		expectOver(t, "P5.1: Sub "+name(z), ratfun.Sub(f, z), num, den)
		expectOver(t, "P5.1: Sub "+name(z), ratfun.Sub(z, f), bigNeg(num), den)
		expectZero(t, "P5.1: Mul "+name(z), ratfun.Mul(f, z))
		expectZero(t, "P5.1: Mul "+name(z), ratfun.Mul(z, f))
		got, e := ratfun.Quo(z, f)
		expectZero(t, "P5.1: Quo "+name(z), got)
		if e != api.OK {
			t.Errorf("P5.1: Quo %s: error %d", name(z), e)
		}
	}
}

func TestWhatCancels(t *testing.T) {
	over := func(num, den api.Poly) api.Fun { return api.Fun{Num: num, Den: den} }
	half, third := over(upoly.Of(1), upoly.Of(2)), over(upoly.Of(1), upoly.Of(3))
	expectOver(t, "P5.1: 1/2 + 1/2", ratfun.Add(half, half), small(1), small(1))
	expectOver(t, "P5.1: 1/2 + 1/3", ratfun.Add(half, third), small(5), small(6))
	expectOver(t, "P5.1: 1/2 1/3", ratfun.Mul(half, third), small(1), small(6))
	first, second := over(upoly.Of(1), upoly.Of(0, 1)), over(upoly.Of(1), upoly.Of(1, 1))
	expectOver(t, "P5.1: 1/x - 1/(x + 1)", ratfun.Sub(first, second), small(1), small(0, 1, 1))
	left, right := over(upoly.Of(0, 1), upoly.Of(-1, 1)), over(upoly.Of(1), upoly.Of(-1, 1))
	expectOver(t, "P5.1: x/(x - 1) - 1/(x - 1)", ratfun.Sub(left, right), small(1), small(1))
	product := over(upoly.Of(1), upoly.Of(0, -1, 1))
	expectOver(t, "P5.1: 1/x + 1/(x^2 - x)", ratfun.Add(first, product), small(1), small(-1, 1))
	up, down := over(upoly.Of(2, 2), upoly.Of(3, 6)), over(upoly.Of(-9, -18), upoly.Of(4, 4))
	expectOver(t, "P5.1: what is crossed", ratfun.Mul(up, down), small(-3), small(2))
	for _, f := range few() {
		expectZero(t, "P5.1: Sub of itself "+name(f), ratfun.Sub(f, f))
		if got, e := ratfun.Quo(f, f); e == api.OK {
			expectOver(t, "P5.1: Quo by itself "+name(f), got, small(1), small(1))
		}
	}
}

func TestThereAndBack(t *testing.T) {
	d := rand.New(rand.NewSource(41))
	for i := range 20 {
		den := random(d, 4+i, 2)
		f := api.Fun{Num: random(d, 3+i, 3), Den: den}
		g := api.Fun{Num: append(random(d, 7, 3), upoly.Of(3)...), Den: upoly.Mul(den, random(d, 5, 2))}
		want := toBigFun(f)
		expect(t, "P5.1: Add and Sub", ratfun.Sub(ratfun.Add(f, g), g), want)
		if !ratfun.Eq(g, api.Fun{}) {
			back, e := ratfun.Quo(ratfun.Mul(f, g), g)
			expect(t, "P5.1: Mul and Quo", back, want)
			if e != api.OK {
				t.Errorf("P5.1: Quo %s: error %d", short(name(g)), e)
			}
		}
	}
}
