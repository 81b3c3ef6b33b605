package euclid_test

import (
	"testing"

	"ashlar/api"
	"ashlar/euclid"
	"ashlar/limbs"
	"ashlar/ore"
	"ashlar/upoly"
)

// multiple holds Multiple of a and b against P10.3, and gives it.
func (x *algebra) multiple(a, b api.Op) api.Multiple {
	x.t.Helper()
	m, e := euclid.Multiple(x.rule, a, b)
	c, err := euclid.Common(x.rule, a, b)
	if e != api.OK || err != api.OK {
		x.t.Fatalf("P10.3: Multiple of %v of %s and %s: error %d, and of Common %d", x.kind, name(a), name(b), e, err)
	}
	what := "P10.3: Multiple of " + x.kind.String() + " of " + name(a) + " and " + name(b) + ": "
	if !isNormal(m.L) || !isNormal(m.U) || !isNormal(m.V) {
		x.t.Errorf("%snot in normal form: %v", what, m)
	}
	if want := ore.Order(a) + ore.Order(b) - ore.Order(c.G); len(m.L) == 0 || ore.Order(m.L) != want {
		x.t.Errorf("%sL is %s, not of order %d", what, name(m.L), want)
	}
	if !ore.Eq(m.L, x.mul(m.U, a)) || !ore.Eq(m.L, x.mul(m.V, b)) {
		x.t.Errorf("%sL is %s, not U a or not V b: %s, %s", what, name(m.L), name(m.U), name(m.V))
	}
	return m
}

func TestMultiple(t *testing.T) {
	for _, k := range kinds() {
		x := algebraOf(t, k)
		done := 0
		for _, pair := range samplePairs(k) {
			a, b := pair[0], pair[1]
			if k.commonEstimate(a, b) > api.MaxBits {
				continue
			}
			done++
			m := x.multiple(a, b)
			// Both ways round there is one least, but for a polynomial.
			if other := x.multiple(b, a); !ore.Eq(ore.Prim(other.L), ore.Prim(m.L)) {
				t.Errorf("P10.3: Multiple of %v of %s and %s: %s, and %s", k, name(a), name(b), name(m.L), name(other.L))
			}
		}
		if done < 500 || x.refused > 0 {
			t.Errorf("%v: only %d pairs; ore refuses %d products", k, done, x.refused)
		}
	}
}

func TestMultipleOfTheDocument(t *testing.T) {
	m := algebraOf(t, few()[1]).multiple(api.Op{nil, p(1)}, api.Op{p(-1), p(1)})
	if ore.Order(m.L) != 2 || !ore.Eq(ore.Prim(m.L), api.Op{nil, p(-1), p(1)}) {
		t.Errorf("P10.3: Multiple of D and D - 1: %s", name(m.L))
	}
}

// The least multiple is known by what it must make zero.
func TestMultipleOfWhatIsKnown(t *testing.T) {
	for i, c := range []struct {
		kind
		a, b, l api.Op
	}{
		// 1; x.
		{few()[0], api.Op{p(-1), p(1)}, api.Op{p(-1, -1), p(0, 1)}, api.Op{p(1), p(-2), p(1)}},
		{few()[1], api.Op{nil, p(1)}, api.Op{p(-1), p(0, 1)}, api.Op{nil, nil, p(1)}},
		// Powers of 2; of 3.
		{few()[0], api.Op{p(-2), p(1)}, api.Op{p(-3), p(1)}, api.Op{p(6), p(-5), p(1)}},
		// exp(x); x.
		{few()[1], api.Op{p(-1), p(1)}, api.Op{p(-1), p(0, 1)}, api.Op{p(1), p(0, -1), p(-1, 1)}},
		// 1; x: with q 2.
		{kind{api.QShift, limbs.Of(2)}, api.Op{p(-1), p(1)}, api.Op{p(-2), p(1)}, api.Op{p(2), p(-3), p(1)}},
		// Factorials; 1.
		{few()[0], api.Op{p(-1, -1), p(1)}, api.Op{p(-1), p(1)}, api.Op{p(1, 2, 1), p(-1, -3, -1), p(0, 1)}},
		// One divides the other.
		{few()[1], api.Op{nil, nil, p(1)}, api.Op{p(-1), p(0, 1)}, api.Op{nil, nil, p(1)}},
		{few()[0], api.Op{p(-1), p(1)}, api.Op{p(-1), nil, p(1)}, api.Op{p(-1), nil, p(1)}},
		{few()[2], api.Op{p(0, -1), p(1)}, api.Op{p(0, 3), p(-3)}, api.Op{p(0, -1), p(1)}},
	} {
		x := algebraOf(t, c.kind)
		for _, f := range []api.Poly{p(1), p(-6), p(0, 1), p(3, -1)} {
			a, b := ore.Scale(f, c.a), ore.Scale(p(0, 2), c.b)
			if m := x.multiple(a, b); !ore.Eq(ore.Prim(m.L), c.l) {
				t.Errorf("P10.3: %d: Multiple of %v of %s and %s: %s", i, c.kind, name(a), name(b), name(m.L))
			}
		}
	}
}

// Each common multiple is a multiple of L.
func TestMultipleOfDivisors(t *testing.T) {
	for _, k := range few() {
		x := algebraOf(t, k)
		for i, a := range plain()[:16] {
			for j, b := range plain()[:16] {
				m := x.multiple(a, b)
				further := x.mul(plain()[(3*i+5*j)%16], m.L)
				if k.divideEstimate(further, m.L) > api.MaxBits {
					continue
				}
				if !x.divides(a, m.L) || !x.divides(b, m.L) || !x.divides(m.L, further) {
					t.Errorf("P10.3: Multiple of %v of %s and %s: %s", k, name(a), name(b), name(m.L))
				}
			}
		}
	}
}

func TestMultipleOfEqualOnes(t *testing.T) {
	for _, k := range kinds() {
		x := algebraOf(t, k)
		for _, a := range samples() {
			if k.commonEstimate(a, a) > api.MaxBits {
				continue
			}
			for _, b := range []api.Op{a, padded(a), ore.Sub(nil, a)} {
				if m := x.multiple(a, b); !ore.Eq(ore.Prim(m.L), ore.Prim(a)) {
					t.Errorf("P10.3: Multiple of %v of %s and itself: %s", k, name(a), name(m.L))
				}
			}
		}
	}
}

func TestMultipleOfPolynomials(t *testing.T) {
	for _, k := range kinds() {
		x := algebraOf(t, k)
		for _, c := range polynomials() {
			for _, d := range polynomials() {
				if m := x.multiple(api.Op{c}, api.Op{d}); ore.Order(m.L) != 0 {
					t.Errorf("P10.3: Multiple of %v of polynomials: %s", k, name(m.L))
				}
				a, b := inLetter(c), inLetter(d)
				if k.commonEstimate(a, b) > api.MaxBits {
					continue
				}
				// In the letter alone, L and the greatest divisor make the product.
				m := x.multiple(a, b)
				g := inLetter(upoly.Gcd(c, d))
				if want := inLetter(upoly.Mul(c, d)); !ore.Eq(ore.Prim(x.mul(ore.Prim(m.L), g)), ore.Prim(want)) {
					t.Errorf("P10.3: Multiple of %v of %s and %s: %s", k, name(a), name(b), name(m.L))
				}
			}
		}
	}
}
