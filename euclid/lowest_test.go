package euclid_test

import (
	"slices"
	"testing"

	"ashlar/api"
	"ashlar/euclid"
	"ashlar/limbs"
	"ashlar/ore"
	"ashlar/upoly"
)

// The document does not say which cofactors are answered. That they have no common
// divisor keeps them from doubling with each step, and that c leads with a number
// above 0 leaves but one answer to a division.
func TestCofactorsInLowestTerms(t *testing.T) {
	prime := func(ops ...api.Op) bool { return upoly.Eq(ore.Content(slices.Concat(ops...)), p(1)) }
	for _, k := range few() {
		r := ruleOf(t, k)
		for i, pair := range samplePairs(k) {
			a, b := pair[0], pair[1]
			if i%2 > 0 || k.commonEstimate(a, b) > api.MaxBits {
				continue
			}
			c, q, _, _ := euclid.Divide(r, a, b)
			if limbs.Sign(upoly.Lead(c)) <= 0 || !prime(api.Op{c}, q) {
				t.Errorf("Divide of %v of %s by %s: %s, %s", k, name(a), name(b), name(api.Op{c}), name(q))
			}
			g, _ := euclid.Common(r, a, b)
			if !prime(g.S, g.T) || !prime(api.Op{g.AL}, g.U) || !prime(api.Op{g.BL}, g.V) {
				t.Errorf("Common of %v of %s and %s: %v", k, name(a), name(b), g)
			}
			m, _ := euclid.Multiple(r, a, b)
			if !prime(m.U, m.V) {
				t.Errorf("Multiple of %v of %s and %s: %v", k, name(a), name(b), m)
			}
		}
	}
}

// What a mixture of polynomials shares with the first by chance is no divisor of
// all.
func TestDivisorsByChance(t *testing.T) {
	for _, k := range few() {
		x := algebraOf(t, k)
		for _, c := range []api.Op{
			// The mixtures of the quotients' entries are zero, or multiples of the leading one.
			{p(2), p(-1), p(3)}, {p(0, 2), p(0, -1), p(1, 1)}, {p(-4, 2), p(3, -1), p(-1, 1)}, {p(6), p(0), p(-2), p(7)}, {p(5), p(5), p(5)}, {p(0, 5), p(0, 0, 5), p(15)},
		} {
			for _, f := range []api.Poly{p(1), p(2), p(5), p(0, 1), p(-1, 1), p(3, 0, 6)} {
				if _, _, s := x.divided(c, api.Op{f}); len(s) > 0 {
					t.Errorf("P10.1: Divide of %v of %s by %s leaves %s", k, name(c), name(api.Op{f}), name(s))
				}
				x.common(c, ore.Scale(f, c))
				x.multiple(c, api.Op{f})
			}
		}
	}
}
