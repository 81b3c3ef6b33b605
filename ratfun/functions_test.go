package ratfun_test

import (
	"math/big"
	"math/rand"
	"testing"

	"ashlar/api"
	"ashlar/limbs"
	"ashlar/ratfun"
	"ashlar/upoly"
)

func TestOfExamples(t *testing.T) {
	f, e := ratfun.Of(upoly.Of(2, 2), upoly.Of(-1, 0, 1))
	g, h := ratfun.Of(upoly.Of(1), upoly.Of(-2))
	expectOver(t, "P5.1: Of 2x + 2 over x^2 - 1", f, small(2), small(-1, 1))
	expectOver(t, "P5.1: Of 1 over -2", g, small(-1), small(2))
	if e != api.OK || h != api.OK {
		t.Errorf("P5.1: Of: error %d, error %d", e, h)
	}
}

func TestOf(t *testing.T) {
	for _, num := range polys() {
		for _, den := range polys() {
			got, e := ratfun.Of(num, den)
			what := "P5.1: Of " + name(api.Fun{Num: num, Den: den})
			if upoly.Deg(den) >= 0 {
				expect(t, what, got, bigFun{toBig(num), toBig(den)})
				if e != api.OK {
					t.Errorf("%s: error %d", what, e)
				}
			}
		}
	}
}

func TestOfOverZero(t *testing.T) {
	for _, num := range polys() {
		for _, z := range zeroForms() {
			got, e := ratfun.Of(num, z)
			what := "P5.1: Of " + name(api.Fun{Num: num, Den: z})
			expectZero(t, what, got)
			if e != api.ErrZero {
				t.Errorf("%s: error %d", what, e)
			}
		}
	}
}

func TestNormAtTheEdges(t *testing.T) {
	for _, c := range []struct{ num, den, wantNum, wantDen []int64 }{
		{nil, []int64{5}, nil, []int64{1}},
		{nil, []int64{0, -5}, nil, []int64{1}},
		{[]int64{6}, []int64{4}, []int64{3}, []int64{2}},
		{[]int64{6}, []int64{-4}, []int64{-3}, []int64{2}},
		{[]int64{-6}, []int64{-4}, []int64{3}, []int64{2}},
		{[]int64{4}, []int64{2}, []int64{2}, []int64{1}},
		{[]int64{-7}, []int64{-7}, []int64{1}, []int64{1}},
		{[]int64{1, 2}, []int64{1, -2}, []int64{-1, -2}, []int64{-1, 2}},
		{[]int64{2, 4}, []int64{6}, []int64{1, 2}, []int64{3}},
		{[]int64{2, 3}, []int64{6}, []int64{2, 3}, []int64{6}},
		{[]int64{6}, []int64{2, -4}, []int64{-3}, []int64{-1, 2}},
		{[]int64{0, 2}, []int64{0, 4}, []int64{1}, []int64{2}},
		{[]int64{0, 1}, []int64{0, -1}, []int64{-1}, []int64{1}},
		{[]int64{2, 4}, []int64{3, 6}, []int64{2}, []int64{3}},
		{[]int64{0, 0, 0, 8}, []int64{0, 12}, []int64{0, 0, 2}, []int64{3}},
		{[]int64{1, -2, 1}, []int64{-1, 0, 1}, []int64{-1, 1}, []int64{1, 1}},
	} {
		f := api.Fun{Num: upoly.Of(c.num...), Den: upoly.Of(c.den...)}
		for _, g := range forms(f) {
			expectOver(t, "P5.1: Norm "+name(g), ratfun.Norm(g), small(c.wantNum...), small(c.wantDen...))
		}
	}
}

func TestNorm(t *testing.T) {
	for _, f := range few() {
		expect(t, "P5.1: Norm "+name(f), ratfun.Norm(f), toBigFun(f))
		for _, g := range forms(ratfun.Norm(f)) {
			expect(t, "P5.1: Norm "+name(g), ratfun.Norm(g), toBigFun(f))
		}
	}
	for _, z := range zeroFuns() {
		expectZero(t, "P5.1: Norm "+name(z), ratfun.Norm(z))
	}
}

// Of great polynomials with a known common divisor: u and u w + 1 have none.
func TestNormOfGreatOnes(t *testing.T) {
	d := rand.New(rand.NewSource(23))
	for _, c := range []struct{ g, u, w, limbs int }{{30, 30, 10, 3}, {2, 60, 40, 5}, {3, 3, 2, 100}, {80, 2, 3, 2}} {
		u, w := toBig(random(d, c.u, c.limbs)), toBig(random(d, c.w, c.limbs))
		g := append(toBig(random(d, c.g, c.limbs)), big.NewInt(-12))
		f := bigFun{u, bigAdd(bigMul(u, w), small(1))}
		wide := api.Fun{Num: polyOf(bigMul(f.num, g)), Den: polyOf(bigMul(f.den, g))}
		num, den := f.num, f.den
		if den[len(den)-1].Sign() < 0 {
			num, den = bigNeg(num), bigNeg(den)
		}
		expectOver(t, "P5.1: Norm", ratfun.Norm(wide), num, den)
	}
}

func TestEq(t *testing.T) {
	eachPair(func(f, g api.Fun) {
		a, b := toBigFun(f), toBigFun(g)
		want := bigSame(bigMul(a.num, b.den), bigMul(b.num, a.den))
		if ratfun.Eq(f, g) != want {
			t.Errorf("P5.1: Eq %s and %s: %t", name(f), name(g), !want)
		}
	})
	for _, f := range few() {
		for _, g := range forms(ratfun.Norm(f)) {
			if !ratfun.Eq(f, g) || !ratfun.Eq(g, f) {
				t.Errorf("P5.1: Eq %s and %s", name(f), name(g))
			}
		}
	}
}

// A Den that is zero does not make a function the same as each.
func TestEqOfZeros(t *testing.T) {
	one := api.Fun{Num: upoly.Of(1), Den: upoly.Of(1)}
	pole := api.Fun{Num: upoly.Of(-2), Den: upoly.Of(0, 3)}
	for _, z := range zeroFuns() {
		for _, y := range []api.Fun{{}, {Den: upoly.Of(1)}, {Num: upoly.Of(0, 7)}, {Den: upoly.Of(1, 2)}} {
			if !ratfun.Eq(z, y) || !ratfun.Eq(y, z) {
				t.Errorf("P5.1: Eq %s and %s", name(z), name(y))
			}
		}
		for _, f := range []api.Fun{one, pole} {
			if ratfun.Eq(z, f) || ratfun.Eq(f, z) {
				t.Errorf("P5.1: Eq %s and %s", name(z), name(f))
			}
		}
	}
}

func TestShift(t *testing.T) {
	for i, f := range few() {
		want := toBigFun(f)
		for j, a := range places() {
			by := bigPoly{bigInt(a), big.NewInt(1)}
			g := forms(ratfun.Norm(f))[(i+j)%10]
			shifted := bigFun{bigInto(want.num, by), bigInto(want.den, by)}
			what := " by " + limbs.Text(a)
			expect(t, "P5.1: Shift "+name(f)+what, ratfun.Shift(f, a), shifted)
			expect(t, "P5.1: Shift "+name(g)+what, ratfun.Shift(g, a), shifted)
		}
	}
	f := api.Fun{Num: upoly.Of(1), Den: upoly.Of(0, 1)}
	expectOver(t, "P5.1: Shift 1 over x", ratfun.Shift(f, limbs.Of(1)), small(1), small(1, 1))
	expectOver(t, "P5.1: Shift 1 over x", ratfun.Shift(f, limbs.Of(-3)), small(1), small(-3, 1))
	for _, z := range zeroFuns() {
		expectZero(t, "P5.1: Shift "+name(z), ratfun.Shift(z, limbs.Of(5)))
	}
}
