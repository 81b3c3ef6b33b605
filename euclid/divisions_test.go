package euclid_test

import (
	"testing"

	"ashlar/api"
	"ashlar/euclid"
	"ashlar/limbs"
	"ashlar/ore"
	"ashlar/upoly"
)

// divided divides a by b, holds what is answered against P10.1, and gives it.
func (x *algebra) divided(a, b api.Op) (api.Poly, api.Op, api.Op) {
	x.t.Helper()
	c, q, s, e := euclid.Divide(x.rule, a, b)
	if e != api.OK {
		x.t.Fatalf("P10.1: Divide of %v of %s by %s: error %d", x.kind, name(a), name(b), e)
	}
	if !isNormalPoly(c) || !isNormal(q) || !isNormal(s) {
		x.t.Errorf("P10.1: Divide of %v of %s by %s: not in normal form: %v, %v, %v", x.kind, name(a), name(b), c, q, s)
	}
	if len(c) == 0 || !ore.Eq(ore.Scale(c, a), ore.Add(x.mul(q, b), s)) || len(s) > 0 && ore.Order(s) >= ore.Order(b) {
		x.t.Errorf("P10.1: Divide of %v of %s by %s: %s, %s, %s", x.kind, name(a), name(b), name(api.Op{c}), name(q), name(s))
	}
	if ore.Order(a) < ore.Order(b) && (!upoly.Eq(c, p(1)) || len(q) > 0 || !ore.Eq(s, a)) {
		x.t.Errorf("P10.1: Divide of %v of %s by the greater %s: %s, %s, %s", x.kind, name(a), name(b), name(api.Op{c}), name(q), name(s))
	}
	is, e := euclid.Divides(x.rule, b, a)
	if e != api.OK || is != (len(s) == 0) {
		x.t.Errorf("P10.1: Divides of %v, %s and %s: %v, error %d", x.kind, name(b), name(a), is, e)
	}
	return c, q, s
}

func (x *algebra) divides(b, a api.Op) bool {
	x.t.Helper()
	is, e := euclid.Divides(x.rule, b, a)
	if e != api.OK {
		x.t.Fatalf("P10.1: Divides of %v, %s and %s: error %d", x.kind, name(b), name(a), e)
	}
	return is
}

func TestDivide(t *testing.T) {
	for _, k := range kinds() {
		x := algebraOf(t, k)
		for _, pair := range samplePairs(k) {
			x.divided(pair[0], pair[1])
		}
		if x.refused > 0 {
			t.Errorf("%v: ore refuses %d products", k, x.refused)
		}
	}
}

func TestDivideOfTheDocument(t *testing.T) {
	x := algebraOf(t, few()[0])
	c, q, s := x.divided(api.Op{nil, nil, p(1)}, api.Op{p(0, -1), p(1)})
	if !upoly.Eq(c, p(1)) || !ore.Eq(q, api.Op{p(1, 1), p(1)}) || !ore.Eq(s, api.Op{p(0, 1, 1)}) {
		t.Errorf("P10.1: Divide of S^2 by S - x: %v, %v, %v", c, q, s)
	}
}

// With a leading entry of 1 there is one quotient and one rest but for c, which
// the answer keeps small.
func TestDivideByWhatLeadsWithOne(t *testing.T) {
	for _, c := range []struct {
		kind
		a, b, q, s api.Op
	}{
		{few()[0], api.Op{nil, p(0, 1)}, api.Op{p(0, 1), p(1)}, api.Op{p(0, 1)}, api.Op{p(0, 0, -1)}},
		{few()[0], api.Op{p(0, 0, 1), p(1), p(1)}, api.Op{p(0, 1), p(1)}, api.Op{p(0, -1), p(1)}, api.Op{p(0, 0, 2)}},
		{few()[1], api.Op{nil, nil, p(1)}, api.Op{p(0, -1), p(1)}, api.Op{p(0, 1), p(1)}, api.Op{p(1, 0, 1)}},
		{few()[1], api.Op{p(3), nil, p(2)}, api.Op{p(5), nil, p(1)}, api.Op{p(2)}, api.Op{p(-7)}},
		{kind{api.QShift, limbs.Of(3)}, api.Op{nil, nil, p(1)}, api.Op{p(0, -1), p(1)}, api.Op{p(0, 3), p(1)}, api.Op{p(0, 0, 3)}},
		{kind{api.QShift, limbs.Of(-1)}, api.Op{nil, nil, p(0, 1)}, api.Op{p(0, 1), p(1)}, api.Op{p(0, 0, 1), p(0, 1)}, api.Op{p(0, 0, 0, -1)}},
	} {
		x := algebraOf(t, c.kind)
		one, q, s := x.divided(c.a, c.b)
		if !upoly.Eq(one, p(1)) || !ore.Eq(q, c.q) || !ore.Eq(s, c.s) {
			t.Errorf("P10.1: Divide of %v of %s by %s: %s, %s, %s", c.kind, name(c.a), name(c.b), name(api.Op{one}), name(q), name(s))
		}
	}
}

// What is a multiple on the left is divided, and what is more is the rest: over
// the rational functions there is but one.
func TestDivideOfMultiples(t *testing.T) {
	done := 0
	for _, k := range kinds() {
		x := algebraOf(t, k)
		for i, b := range plain() {
			for j, u := range plain() {
				a := x.mul(u, b)
				if k.divideEstimate(a, b) > api.MaxBits/2 {
					continue
				}
				done++
				if !x.divides(b, a) {
					t.Errorf("P10.1: %v: %s does not divide %s", k, name(b), name(a))
				}
				if _, _, s := x.divided(a, b); len(s) > 0 {
					t.Errorf("P10.1: Divide of %v of %s by %s leaves %s", k, name(a), name(b), name(s))
				}
				more := plain()[(i+3*j)%len(plain())]
				if ore.Order(more) >= ore.Order(b) {
					continue
				}
				sum := ore.Add(a, more)
				if x.divides(b, sum) {
					t.Errorf("P10.1: %v: %s divides %s", k, name(b), name(sum))
				}
				if c, _, s := x.divided(sum, b); !ore.Eq(s, ore.Scale(c, more)) {
					t.Errorf("P10.1: Divide of %v of %s by %s leaves %s", k, name(sum), name(b), name(s))
				}
			}
		}
	}
	if done < 5000 {
		t.Errorf("only %d multiples", done)
	}
}

// Of what divides only over the rational functions no c of 1 can be told.
func TestDividesOverRationalFunctions(t *testing.T) {
	for _, c := range []struct {
		kind
		b, a api.Op
		q    api.Op
		c    api.Poly
	}{
		{few()[0], api.Op{p(-2), p(2)}, api.Op{p(-1), p(1)}, api.Op{p(1)}, p(2)},
		{few()[0], api.Op{nil, p(0, 1)}, api.Op{nil, p(1)}, api.Op{p(1)}, p(0, 1)},
		{few()[0], api.Op{p(0, 1)}, api.Op{nil, p(1)}, api.Op{nil, p(1)}, p(1, 1)},
		// The one makes x zero, the other 1 and x.
		{few()[0], api.Op{p(-1, -1), p(0, 1)}, api.Op{p(1), p(-2), p(1)}, api.Op{p(-1), p(1)}, p(1, 1)},
		{few()[1], api.Op{p(-1), p(0, 1)}, api.Op{nil, nil, p(1)}, api.Op{nil, p(1)}, p(0, 1)},
		{few()[1], api.Op{p(0, 1)}, api.Op{nil, p(1)}, api.Op{p(-1), p(0, 1)}, p(0, 0, 1)},
		{few()[2], api.Op{p(0, 1)}, api.Op{nil, p(1)}, api.Op{nil, p(1)}, p(0, -2)},
		{few()[2], api.Op{nil, p(1, 1)}, api.Op{nil, nil, p(3)}, api.Op{nil, p(3)}, p(1, -2)},
	} {
		x := algebraOf(t, c.kind)
		by, q, s := x.divided(c.a, c.b)
		if len(s) > 0 || !x.divides(c.b, c.a) {
			t.Errorf("P10.1: %v: %s does not divide %s", c.kind, name(c.b), name(c.a))
		}
		// All that there are is these times a rational function.
		if !ore.Eq(ore.Scale(c.c, q), ore.Scale(by, c.q)) {
			t.Errorf("P10.1: Divide of %v of %s by %s: %s, %s", c.kind, name(c.a), name(c.b), name(api.Op{by}), name(q))
		}
	}
}

func TestDivideByAPolynomial(t *testing.T) {
	for _, k := range kinds() {
		x := algebraOf(t, k)
		for _, f := range []api.Poly{p(1), p(-4), p(0, 1), p(3, 0, 2), p(0, 0, -5, 1)} {
			for _, a := range samples() {
				if _, _, s := x.divided(a, api.Op{f}); len(s) > 0 {
					t.Errorf("P10.1: Divide of %v of %s by a polynomial leaves %s", k, name(a), name(s))
				}
			}
		}
	}
}

func TestDivideZero(t *testing.T) {
	for _, k := range few() {
		x := algebraOf(t, k)
		for _, z := range zeroOps() {
			for _, b := range plain() {
				if c, q, s := x.divided(z, b); !upoly.Eq(c, p(1)) || len(q)+len(s) > 0 {
					t.Errorf("P10.1: Divide of zero by %s: %v, %v, %v", name(b), c, q, s)
				}
			}
		}
	}
}

func TestDivideByItself(t *testing.T) {
	for _, k := range kinds() {
		x := algebraOf(t, k)
		for _, a := range samples() {
			if _, q, s := x.divided(a, a); len(s) > 0 || ore.Order(q) != 0 {
				t.Errorf("P10.1: Divide of %v of %s by itself: %v, %v", k, name(a), q, s)
			}
		}
	}
}

// Where all entries are numbers, operators are polynomials in the letter.
func TestDivideLikePolynomials(t *testing.T) {
	for _, k := range kinds() {
		x := algebraOf(t, k)
		for _, c := range polynomials() {
			for _, d := range polynomials() {
				exponent := max(upoly.Deg(c)-upoly.Deg(d)+1, 0)
				power, _ := limbs.Power(upoly.Lead(d), exponent)
				wantQ, wantS, _ := upoly.Pseudo(c, d)
				by, q, s := x.divided(inLetter(c), inLetter(d))
				if !ore.Eq(ore.Scale(api.Poly{power}, q), ore.Scale(by, inLetter(wantQ))) || !ore.Eq(ore.Scale(api.Poly{power}, s), ore.Scale(by, inLetter(wantS))) {
					t.Errorf("P10.1: Divide of %v of %s by %s: %s, %s, %s", k, name(inLetter(c)), name(inLetter(d)), name(api.Op{by}), name(q), name(s))
				}
			}
		}
	}
}

// polynomials are none of them zero, some with a common divisor.
func polynomials() []api.Poly {
	return []api.Poly{
		p(1), p(-6), p(0, 1), p(-1, 1), p(1, 2), p(-1, 0, 1), p(6, -5, 1), p(2, 4), p(0, -3, 0, 3), p(1, 0, 1, 0, 1), p(1, 1, 1), p(-1, 0, 0, 0, 0, 0, 1), p(0, 0, 7, -9),
		upoly.Mul(p(1, 2), p(-1, 0, 0, 5)), upoly.Mul(p(1, 2), p(3, 1, 1)),
	}
}

// inLetter gives the operator in which the letter stands for the polynomial's x.
func inLetter(f api.Poly) api.Op {
	var out api.Op
	for _, c := range f {
		out = append(out, upoly.Norm(api.Poly{c}))
	}
	return out
}
