package ratfun_test

import (
	"fmt"
	"math/big"
	"slices"
	"testing"

	"ashlar/api"
)

// The oracle of these tests is math/big, which the program itself may not use:
// polynomials are lists of *big.Int, the last not 0.

type bigPoly []*big.Int

// bigFun is a function whose den is not zero.
type bigFun struct{ num, den bigPoly }

func bigInt(a api.Int) *big.Int {
	x := new(big.Int)
	for _, w := range slices.Backward(a.L) {
		x.Lsh(x, 32).Or(x, big.NewInt(int64(w)))
	}
	if a.Neg {
		x.Neg(x)
	}
	return x
}

func fromBig(x *big.Int) api.Int {
	out := api.Int{Neg: x.Sign() < 0}
	low := big.NewInt(0xffffffff)
	for y := new(big.Int).Abs(x); y.Sign() > 0; y.Rsh(y, 32) {
		out.L = append(out.L, uint32(new(big.Int).And(y, low).Uint64()))
	}
	return out
}

func toBig(p api.Poly) bigPoly {
	out := bigPoly{}
	for _, c := range p {
		out = append(out, bigInt(c))
	}
	return cut(out)
}

func polyOf(p bigPoly) api.Poly {
	var out api.Poly
	for _, c := range p {
		out = append(out, fromBig(c))
	}
	return out
}

func toBigFun(f api.Fun) bigFun {
	out := bigFun{toBig(f.Num), toBig(f.Den)}
	if len(out.den) == 0 {
		return bigFun{nil, small(1)}
	}
	return out
}

func small(ns ...int64) bigPoly {
	out := bigPoly{}
	for _, n := range ns {
		out = append(out, big.NewInt(n))
	}
	return cut(out)
}

func cut(p bigPoly) bigPoly {
	for len(p) > 0 && p[len(p)-1].Sign() == 0 {
		p = p[:len(p)-1]
	}
	return p
}

func zeroes(n int) bigPoly {
	out := make(bigPoly, n)
	for i := range out {
		out[i] = new(big.Int)
	}
	return out
}

func bigAdd(p, q bigPoly) bigPoly {
	out := zeroes(max(len(p), len(q)))
	for i, c := range p {
		out[i].Add(out[i], c)
	}
	for i, c := range q {
		out[i].Add(out[i], c)
	}
	return cut(out)
}

func bigMul(p, q bigPoly) bigPoly {
	out := zeroes(len(p) + len(q))
	for i, a := range p {
		for j, b := range q {
			out[i+j].Add(out[i+j], new(big.Int).Mul(a, b))
		}
	}
	return cut(out)
}

func bigScale(p bigPoly, a *big.Int) bigPoly { return bigMul(p, bigPoly{a}) }

func bigNeg(p bigPoly) bigPoly { return bigMul(p, small(-1)) }

// bigInto gives p(q).
func bigInto(p, q bigPoly) bigPoly {
	out := bigPoly{}
	for _, c := range slices.Backward(p) {
		out = bigAdd(bigMul(out, q), cut(bigPoly{c}))
	}
	return out
}

func bigEval(p bigPoly, x *big.Int) *big.Int {
	v := new(big.Int)
	for _, c := range slices.Backward(p) {
		v.Mul(v, x).Add(v, c)
	}
	return v
}

func bigSame(p, q bigPoly) bool {
	return slices.EqualFunc(p, q, func(a, b *big.Int) bool { return a.Cmp(b) == 0 })
}

func bigContent(p bigPoly) *big.Int {
	g := new(big.Int)
	for _, c := range p {
		g.GCD(nil, nil, g, new(big.Int).Abs(c))
	}
	return g
}

// bigPrim gives the primitive part of what is not zero.
func bigPrim(p bigPoly) bigPoly {
	by := bigContent(p)
	if p[len(p)-1].Sign() < 0 {
		by.Neg(by)
	}
	return bigExact(p, bigPoly{by})
}

// bigGcd goes by Euclid's steps, and makes what is left primitive each time.
func bigGcd(p, q bigPoly) bigPoly {
	content := new(big.Int).GCD(nil, nil, bigContent(p), bigContent(q))
	a, b := p, q
	for len(b) > 0 {
		a, b = b, bigRest(a, b)
	}
	if len(a) == 0 {
		return nil
	}
	return bigScale(bigPrim(a), content)
}

// bigRest gives what b leaves of a, times a number, primitive.
func bigRest(a, b bigPoly) bigPoly {
	for len(a) >= len(b) {
		step := zeroes(len(a) - len(b) + 1)
		step[len(step)-1].Neg(a[len(a)-1])
		a = bigAdd(bigScale(a, b[len(b)-1]), bigMul(step, b))
	}
	if len(a) == 0 {
		return nil
	}
	return bigPrim(a)
}

// bigExact gives a over b, which goes.
func bigExact(a, b bigPoly) bigPoly {
	out := zeroes(max(0, len(a)-len(b)+1))
	for len(a) > 0 {
		step := zeroes(len(a) - len(b) + 1)
		last := step[len(step)-1]
		if _, rest := last.QuoRem(a[len(a)-1], b[len(b)-1], new(big.Int)); rest.Sign() != 0 {
			panic(fmt.Sprint("not divided: ", a, " by ", b))
		}
		a = bigAdd(a, bigNeg(bigMul(step, b)))
		out[len(step)-1].Set(last)
	}
	return out
}

func bigLcm(p, q bigPoly) bigPoly {
	m := bigMul(p, bigExact(q, bigGcd(p, q)))
	if m[len(m)-1].Sign() < 0 {
		return bigNeg(m)
	}
	return m
}

// bigNorm gives the normal form.
func bigNorm(f bigFun) bigFun {
	g := bigGcd(f.num, f.den)
	if f.den[len(f.den)-1].Sign() < 0 {
		g = bigNeg(g)
	}
	return bigFun{bigExact(f.num, g), bigExact(f.den, g)}
}

// isInt tells whether an answer is a number, in normal form.
func isInt(got api.Int, want *big.Int) bool {
	normal := len(got.L) == 0 && !got.Neg || len(got.L) > 0 && got.L[len(got.L)-1] != 0
	return normal && bigInt(got).Cmp(want) == 0
}

// isPoly tells whether an answer is a polynomial, in normal form.
func isPoly(got api.Poly, want bigPoly) bool { return slices.EqualFunc(got, want, isInt) }

// expect holds an answer against a function, in normal form: there is one alone.
func expect(t *testing.T, what string, got api.Fun, want bigFun) {
	t.Helper()
	want = bigNorm(want)
	if !isPoly(got.Num, want.num) || !isPoly(got.Den, want.den) {
		t.Errorf("%s: %s, not %v over %v", what, short(name(got)), want.num, want.den)
	}
}

// expectOver is expect for an answer that is written out.
func expectOver(t *testing.T, what string, got api.Fun, num, den bigPoly) {
	t.Helper()
	if !isPoly(got.Num, num) || !isPoly(got.Den, den) {
		t.Errorf("%s: %s, not %v over %v", what, short(name(got)), num, den)
	}
}

// expectZero holds an answer against 0 over 1, which stands beside an error too.
func expectZero(t *testing.T, what string, got api.Fun) {
	t.Helper()
	expectOver(t, what, got, nil, small(1))
}

func name(f api.Fun) string { return fmt.Sprint(bigInts(f.Num), " over ", bigInts(f.Den)) }

// bigInts tells a list as it stands, with the zeros at its end.
func bigInts(p api.Poly) []*big.Int {
	var out []*big.Int
	for _, c := range p {
		out = append(out, bigInt(c))
	}
	return out
}

func short(s string) string {
	if len(s) > 300 {
		return s[:300] + ".."
	}
	return s
}
