package euclid_test

import (
	"testing"

	"ashlar/api"
	"ashlar/euclid"
	"ashlar/limbs"
	"ashlar/linalg"
	"ashlar/ore"
	"ashlar/upoly"
)

// common holds Common of a and b against P10.2, and gives it.
func (x *algebra) common(a, b api.Op) api.Common {
	x.t.Helper()
	c, e := euclid.Common(x.rule, a, b)
	if e != api.OK {
		x.t.Fatalf("P10.2: Common of %v of %s and %s: error %d", x.kind, name(a), name(b), e)
	}
	for _, d := range []api.Op{c.G, c.S, c.T, c.U, c.V, {c.Left}, {c.AL}, {c.BL}} {
		if !isNormal(d) {
			x.t.Errorf("P10.2: Common of %v of %s and %s: %v is not in normal form", x.kind, name(a), name(b), d)
		}
	}
	what := "P10.2: Common of " + x.kind.String() + " of " + name(a) + " and " + name(b) + ": "
	if len(c.G) == 0 || !ore.Eq(ore.Prim(c.G), c.G) {
		x.t.Errorf("%sG is %s", what, name(c.G))
	}
	if len(c.Left) == 0 || !ore.Eq(ore.Add(x.mul(c.S, a), x.mul(c.T, b)), ore.Scale(c.Left, c.G)) {
		x.t.Errorf("%sS a + T b is not Left G: %s, %s, %s", what, name(c.S), name(c.T), name(api.Op{c.Left}))
	}
	if len(c.AL) == 0 || !ore.Eq(ore.Scale(c.AL, a), x.mul(c.U, c.G)) {
		x.t.Errorf("%sAL a is not U G: %s, %s", what, name(api.Op{c.AL}), name(c.U))
	}
	if len(c.BL) == 0 || !ore.Eq(ore.Scale(c.BL, b), x.mul(c.V, c.G)) {
		x.t.Errorf("%sBL b is not V G: %s, %s", what, name(api.Op{c.BL}), name(c.V))
	}
	return c
}

func TestCommon(t *testing.T) {
	for _, k := range kinds() {
		x := algebraOf(t, k)
		done, great := 0, 0
		for _, pair := range samplePairs(k) {
			a, b := pair[0], pair[1]
			if k.commonEstimate(a, b) > api.MaxBits {
				continue
			}
			done++
			c := x.common(a, b)
			if ore.Order(c.G) > 0 {
				great++
			}
			if ore.Order(c.G) == 0 && !ore.Eq(c.G, api.Op{p(1)}) {
				t.Errorf("P10.2: Common of %v of %s and %s: G is %s", k, name(a), name(b), name(c.G))
			}
			// Both ways round there is one greatest.
			if other := x.common(b, a); !ore.Eq(other.G, c.G) {
				t.Errorf("P10.2: Common of %v of %s and %s: %s, and %s", k, name(a), name(b), name(c.G), name(other.G))
			}
		}
		if done < 500 || great < 20 || x.refused > 0 {
			t.Errorf("%v: only %d pairs, of which %d have a divisor; ore refuses %d products", k, done, great, x.refused)
		}
	}
}

func TestCommonOfTheDocument(t *testing.T) {
	x := algebraOf(t, few()[0])
	if c := x.common(api.Op{p(-1), nil, p(1)}, api.Op{p(-1), p(1)}); !ore.Eq(c.G, api.Op{p(-1), p(1)}) {
		t.Errorf("P10.2: Common of S^2 - 1 and S - 1: %s", name(c.G))
	}
	if c := x.common(nil, api.Op{nil, p(2)}); !ore.Eq(c.G, api.Op{nil, p(1)}) {
		t.Errorf("P10.2: Common of 0 and 2S: %s", name(c.G))
	}
}

// known are pairs whose greatest divisor can be told by what both make zero.
func known() []struct {
	kind
	a, b, g api.Op
} {
	return []struct {
		kind
		a, b, g api.Op
	}{
		// 1 and x; x.
		{few()[0], api.Op{p(1), p(-2), p(1)}, api.Op{p(-1, -1), p(0, 1)}, api.Op{p(-1, -1), p(0, 1)}},
		{few()[1], api.Op{nil, nil, p(1)}, api.Op{p(-1), p(0, 1)}, api.Op{p(-1), p(0, 1)}},
		// Powers of 2 and of 3; of 3 and of 5.
		{few()[0], api.Op{p(6), p(-5), p(1)}, api.Op{p(15), p(-8), p(1)}, api.Op{p(-3), p(1)}},
		// exp(x) and x; exp(x) and exp(-x).
		{few()[1], api.Op{p(1), p(0, -1), p(-1, 1)}, api.Op{p(-1), nil, p(1)}, api.Op{p(-1), p(1)}},
		// 1 and x^2; x and x^2: with q 2.
		{kind{api.QShift, limbs.Of(2)}, api.Op{p(4), p(-5), p(1)}, api.Op{p(8), p(-6), p(1)}, api.Op{p(-4), p(1)}},
		// 1, but no factorials; factorials.
		{few()[0], api.Op{p(1, 1), p(-2, -1), p(1)}, api.Op{p(-1, -1), p(1)}, api.Op{p(1)}},
		// 1 and factorials; factorials.
		{few()[0], api.Op{p(1, 2, 1), p(-1, -3, -1), p(0, 1)}, api.Op{p(-1, -1), p(1)}, api.Op{p(-1, -1), p(1)}},
	}
}

func TestCommonOfWhatIsKnown(t *testing.T) {
	for i, c := range known() {
		x := algebraOf(t, c.kind)
		for _, f := range []api.Poly{p(1), p(-6), p(0, 1), p(3, -1)} {
			a, b := ore.Scale(f, c.a), ore.Scale(p(0, 2), c.b)
			if got := x.common(a, b); !ore.Eq(got.G, c.g) {
				t.Errorf("P10.2: %d: Common of %v of %s and %s: %s", i, c.kind, name(a), name(b), name(got.G))
			}
		}
	}
}

// What divides both divides G.
func TestCommonOfMultiples(t *testing.T) {
	for _, k := range kinds() {
		x := algebraOf(t, k)
		done := 0
		for i, g := range plain() {
			for j, u := range plain()[:16] {
				a, b := x.mul(u, g), x.mul(plain()[(5*i+7*j+2)%16], g)
				if k.commonEstimate(a, b) > api.MaxBits {
					continue
				}
				done++
				c := x.common(a, b)
				if ore.Order(c.G) < ore.Order(g) || !x.divides(g, c.G) {
					t.Errorf("P10.2: Common of %v of %s and %s: %s", k, name(a), name(b), name(c.G))
				}
			}
		}
		if done < 80 {
			t.Errorf("%v: only %d pairs", k, done)
		}
	}
}

// sylvester gives the matrix of X^i a and X^j b, i below b's order and j below
// a's, a row each.
func (x *algebra) sylvester(a, b api.Op) [][]api.Poly {
	var out [][]api.Poly
	r, s := ore.Order(a), ore.Order(b)
	raise := func(a api.Op, n int) {
		letter := api.Op{nil, p(1)}
		for range n {
			row := make([]api.Poly, r+s)
			copy(row, ore.Norm(a))
			out = append(out, row)
			a = x.mul(letter, a)
		}
	}
	raise(a, s)
	raise(b, r)
	return out
}

// The order of the greatest divisor is what the rank of that matrix lacks.
func TestOrdersByRank(t *testing.T) {
	done := 0
	for _, k := range kinds() {
		x := algebraOf(t, k)
		for i, pair := range samplePairs(k) {
			a, b := pair[0], pair[1]
			if ore.Order(a) < 1 || ore.Order(b) < 1 || i%2 > 0 || k.commonEstimate(a, b) > api.MaxBits {
				continue
			}
			_, rows, _, e := linalg.Null(x.sylvester(a, b))
			if e != api.OK {
				continue
			}
			done++
			want := ore.Order(a) + ore.Order(b) - len(rows)
			if c := x.common(a, b); ore.Order(c.G) != want {
				t.Errorf("P10.2: Common of %v of %s and %s: %s, not of order %d", k, name(a), name(b), name(c.G), want)
			}
			if m := x.multiple(a, b); ore.Order(m.L) != len(rows) {
				t.Errorf("P10.3: Multiple of %v of %s and %s: %s, not of order %d", k, name(a), name(b), name(m.L), len(rows))
			}
		}
	}
	if done < 1500 {
		t.Errorf("only %d pairs", done)
	}
}

func TestCommonWithZero(t *testing.T) {
	for _, k := range kinds() {
		x := algebraOf(t, k)
		for i, b := range samples() {
			z := zeroOps()[i%len(zeroOps())]
			want := ore.Prim(b)
			if c := x.common(z, b); !ore.Eq(c.G, want) || len(c.U) > 0 {
				t.Errorf("P10.2: Common of %v of zero and %s: %s, U %s", k, name(b), name(c.G), name(c.U))
			}
			if c := x.common(b, z); !ore.Eq(c.G, want) || len(c.V) > 0 {
				t.Errorf("P10.2: Common of %v of %s and zero: %s, V %s", k, name(b), name(c.G), name(c.V))
			}
		}
	}
}

func TestCommonOfEqualOnes(t *testing.T) {
	for _, k := range kinds() {
		x := algebraOf(t, k)
		for _, a := range samples() {
			if k.commonEstimate(a, a) > api.MaxBits {
				continue
			}
			for _, b := range []api.Op{a, padded(a), ore.Sub(nil, a)} {
				if c := x.common(a, b); !ore.Eq(c.G, ore.Prim(a)) {
					t.Errorf("P10.2: Common of %v of %s and itself: %s", k, name(a), name(c.G))
				}
			}
			b := ore.Scale(p(0, 3), a)
			if k.commonEstimate(a, b) > api.MaxBits {
				continue
			}
			if c := x.common(a, b); !ore.Eq(c.G, ore.Prim(a)) {
				t.Errorf("P10.2: Common of %v of %s and 3x times it: %s", k, name(a), name(c.G))
			}
		}
	}
}

func TestCommonLikePolynomials(t *testing.T) {
	for _, k := range kinds() {
		x := algebraOf(t, k)
		for _, c := range polynomials() {
			for _, d := range polynomials() {
				a, b := inLetter(c), inLetter(d)
				if k.commonEstimate(a, b) > api.MaxBits {
					continue
				}
				want := inLetter(upoly.Prim(upoly.Gcd(c, d)))
				if got := x.common(a, b); !ore.Eq(got.G, want) {
					t.Errorf("P10.2: Common of %v of %s and %s: %s, not %s", k, name(a), name(b), name(got.G), name(want))
				}
			}
		}
	}
}
