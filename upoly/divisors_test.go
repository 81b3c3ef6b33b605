package upoly_test

import (
	"fmt"
	"math/big"
	"math/rand"
	"testing"

	"ashlar/api"
	"ashlar/limbs"
	"ashlar/upoly"
)

// bigGcd goes by Euclid's steps over the rationals, a way that the program does
// not take.
func bigGcd(p, q bigPoly) bigPoly {
	content := new(big.Int).GCD(nil, nil, bigContent(p), bigContent(q))
	a, b := p, q
	for len(b) > 0 {
		a, b = b, bigRest(a, b)
	}
	if len(a) == 0 {
		return nil
	}
	return bigScale(bigPrim(a), content)
}

func bigPrim(p bigPoly) bigPoly {
	by := bigContent(p)
	if p[len(p)-1].Sign() < 0 {
		by.Neg(by)
	}
	out := bigPoly{}
	for _, c := range p {
		out = append(out, new(big.Int).Quo(c, by))
	}
	return out
}

// bigRest gives what b leaves of a, times a number, with content 1.
func bigRest(a, b bigPoly) bigPoly {
	for len(a) >= len(b) {
		step := zeroes(len(a) - len(b) + 1)
		step[len(step)-1].Neg(a[len(a)-1])
		a = bigAdd(bigScale(a, b[len(b)-1]), bigMul(step, b))
	}
	if len(a) == 0 {
		return nil
	}
	return bigPrim(a)
}

func TestGcd(t *testing.T) {
	eachPair(func(p, q api.Poly) {
		want := bigGcd(toBig(p), toBig(q))
		expect(t, "P3.3: Gcd "+name(p)+" and "+name(q), upoly.Gcd(p, q), want)
	})
}

func TestGcdWithACommonFactor(t *testing.T) {
	by := []api.Poly{upoly.Of(1), upoly.Of(-6), upoly.Of(4, 4), upoly.Of(0, 0, -3), upoly.Of(2, -5, 0, 7)}
	eachPair(func(p, q api.Poly) {
		for i, g := range by {
			// Each pair with one factor, so that all come about.
			if i != (len(p)+3*len(q))%len(by) {
				continue
			}
			a, b := bigMul(toBig(p), toBig(g)), bigMul(toBig(q), toBig(g))
			what := "P3.3: Gcd " + name(p) + " and " + name(q) + " times " + name(g)
			expect(t, what, upoly.Gcd(polyOf(a), polyOf(b)), bigGcd(a, b))
		}
	})
}

func TestGcdAtTheEdges(t *testing.T) {
	for _, c := range []struct{ p, q, g []int64 }{
		{[]int64{-6, 0, 6}, []int64{4, 4}, []int64{2, 2}},
		{nil, nil, nil},
		{nil, []int64{-2}, []int64{2}},
		{nil, []int64{3, -6}, []int64{-3, 6}},
		{nil, []int64{3, 6}, []int64{3, 6}},
		{[]int64{12}, []int64{-18}, []int64{6}},
		{[]int64{12}, []int64{4, 6}, []int64{2}},
		{[]int64{1}, []int64{0, 1}, []int64{1}},
		{[]int64{0, -4}, []int64{0, -6}, []int64{0, 2}},
		{[]int64{1, -1}, []int64{1, -1}, []int64{-1, 1}},
		{[]int64{1, 0, 1}, []int64{0, 1}, []int64{1}},
		{[]int64{0, 1}, []int64{0, 0, 0, 8}, []int64{0, 1}},
		// Over the rationals both are the same.
		{[]int64{2, 4}, []int64{3, 6}, []int64{1, 2}},
	} {
		for _, p := range forms(upoly.Of(c.p...)) {
			for _, q := range forms(upoly.Of(c.q...)) {
				expectOf(t, "P3.3: Gcd "+name(p)+" and "+name(q), upoly.Gcd(p, q), c.g...)
				expectOf(t, "P3.3: Gcd "+name(q)+" and "+name(p), upoly.Gcd(q, p), c.g...)
			}
		}
	}
	for _, z := range zeroForms() {
		for _, y := range zeroForms() {
			expectOf(t, "P3.3: Gcd of zeros", upoly.Gcd(z, y))
		}
		expectOf(t, "P3.3: Gcd with zero", upoly.Gcd(z, upoly.Of(3, 0, -6)), -3, 0, 6)
		expectOf(t, "P3.3: Gcd with zero", upoly.Gcd(upoly.Of(3, 0, -6), z), -3, 0, 6)
	}
}

// Common divisors are looked for modulo the greatest primes below 2^31: of these
// numbers the first primes tell wrong ones.
func TestGcdAtThePrimes(t *testing.T) {
	m, n, o := big.NewInt(1<<31-1), big.NewInt(1<<31-19), big.NewInt(1<<31-61)
	mn := new(big.Int).Mul(m, n)
	mno := new(big.Int).Mul(mn, o)
	one := big.NewInt(1)
	x, y := bigPoly{new(big.Int), one}, bigPoly{one, one}
	plus := func(c *big.Int) bigPoly { return bigPoly{c, one} }
	steep := func(c *big.Int) bigPoly { return bigPoly{one, c} }
	long := plus(new(big.Int).Exp(m, big.NewInt(9), nil))
	long[0].Add(long[0], one)
	for _, c := range [][2]bigPoly{
		{x, plus(m)}, {x, plus(mno)}, {plus(m), plus(mn)},
		{bigMul(x, y), bigMul(plus(m), y)}, {bigMul(x, y), bigMul(plus(n), y)},
		{bigMul(x, long), bigMul(plus(n), long)}, {bigMul(x, long), bigMul(plus(o), long)},
		{bigMul(x, plus(mn)), bigMul(y, plus(mn))}, {bigMul(y, plus(mn)), bigMul(x, plus(mn))},
		{bigMul(y, plus(mno)), bigMul(plus(big.NewInt(3)), plus(mno))}, {plus(mno), bigMul(x, plus(mno))},
		{bigMul(steep(m), y), bigMul(steep(m), x)}, {bigMul(steep(mno), y), bigMul(steep(mno), x)},
		{bigMul(steep(m), y), bigMul(steep(n), y)}, {steep(m), steep(n)}, {steep(m), y},
	} {
		for _, by := range []bigPoly{{one}, {big.NewInt(-10)}, {m, m}, bigMul(plus(m), plus(n))} {
			p, q := bigMul(c[0], by), bigMul(c[1], by)
			what, want := fmt.Sprintf("P3.3: Gcd %v and %v", p, q), bigGcd(p, q)
			expect(t, what, upoly.Gcd(polyOf(p), polyOf(q)), want)
			expect(t, what+" turned round", upoly.Gcd(polyOf(q), polyOf(p)), want)
		}
	}
}

// u and u w + 1 have no common divisor, whatever u and w are.
func TestGcdOfGreatOnes(t *testing.T) {
	d := rand.New(rand.NewSource(29))
	for _, c := range []struct{ g, u, w, limbs int }{{60, 60, 20, 3}, {2, 100, 100, 6}, {4, 3, 2, 200}, {150, 2, 3, 2}} {
		g := bigPrim(append(toBig(random(d, c.g, c.limbs)), big.NewInt(720720)))
		u, w := toBig(random(d, c.u, c.limbs)), toBig(random(d, c.w, c.limbs))
		v := bigAdd(bigMul(u, w), bigPoly{big.NewInt(1)})
		p, q := bigScale(bigMul(g, u), big.NewInt(-6)), bigScale(bigMul(g, v), big.NewInt(4))
		want := bigScale(g, new(big.Int).GCD(nil, nil, bigContent(p), bigContent(q)))
		expect(t, "P3.3: Gcd", upoly.Gcd(polyOf(p), polyOf(q)), want)
	}
}

func TestGcdDividesBoth(t *testing.T) {
	d := rand.New(rand.NewSource(31))
	for range 20 {
		g := random(d, 1+d.Intn(8), 3)
		p, q := upoly.Mul(g, random(d, 9, 4)), upoly.Mul(g, random(d, 7, 4))
		got := upoly.Gcd(p, q)
		for _, a := range []api.Poly{p, q} {
			if _, ok := upoly.Exact(a, got); !ok && upoly.Deg(got) >= 0 {
				t.Errorf("P3.3: Gcd %s and %s: %s does not divide", name(p), name(q), name(got))
			}
		}
		if _, ok := upoly.Exact(got, g); !ok && upoly.Deg(g) >= 0 {
			t.Errorf("P3.3: Gcd %s and %s: %s is not divided", name(p), name(q), name(got))
		}
		if limbs.Sign(upoly.Lead(got)) < 0 {
			t.Errorf("P3.3: Gcd: Lead of %s", name(got))
		}
	}
}
