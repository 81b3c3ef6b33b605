package ore_test

import (
	"fmt"
	"math"
	"math/rand"
	"testing"

	"ashlar/api"
	"ashlar/limbs"
	"ashlar/ore"
	"ashlar/upoly"
)

func TestMul(t *testing.T) {
	refused, taken := 0, 0
	for i, k := range kinds() {
		r := ruleOf(t, k)
		for j, a := range samples() {
			for l, b := range samples() {
				// Of the many q each pair meets some.
				if k.algebra == api.QShift && (i+j+l)%6 > 0 {
					continue
				}
				x, y := toBigOp(a), toBigOp(b)
				what := "P8.2: Mul of " + k.String() + " of " + name(a...) + " and " + name(b...)
				got, e := r.Mul(a, b)
				if k.mulEstimate(x, y) > api.MaxBits {
					refused++
					if e != api.ErrBig || len(got) > 0 {
						t.Errorf("%s: %v, error %d", what, got, e)
					}
					continue
				}
				taken++
				if e != api.OK {
					t.Errorf("%s: error %d", what, e)
				}
				expectOp(t, what, got, k.product(x, y))
			}
		}
	}
	if taken < 20000 {
		t.Errorf("only %d products, and %d that are refused", taken, refused)
	}
}

func TestMulOfTheDocument(t *testing.T) {
	x, letter := api.Op{p(0, 1)}, api.Op{nil, p(1)}
	for i, want := range []api.Op{{nil, p(1, 1)}, {p(1), p(0, 1)}, {nil, p(0, 2)}} {
		k := few()[i]
		if k.algebra == api.QShift {
			k.q = limbs.Of(2)
		}
		got, e := ruleOf(t, k).Mul(letter, x)
		if e != api.OK {
			t.Errorf("P8.2: Mul: error %d", e)
		}
		expectOp(t, "P8.2: the letter times x, "+k.String(), got, toBigOp(want))
	}
	got, e := ruleOf(t, few()[1]).Mul(api.Op{nil, nil, p(1)}, x)
	if e != api.OK {
		t.Errorf("P8.2: Mul: error %d", e)
	}
	expectOp(t, "P8.2: D^2 x", got, bigOp{nil, {bigInt(limbs.Of(2))}, toBig(p(0, 1))})
}

// Those near the greatest that are not refused.
func TestMulOfLongOnes(t *testing.T) {
	d := rand.New(rand.NewSource(81))
	for _, c := range []struct{ rows, n, bits, otherRows, otherN, otherBits int }{
		{20, 2, 4, 8, 8, 8}, {8, 8, 8, 12, 4, 3}, {2, 60, 40, 2, 60, 40}, {2, 100, 9, 60, 5, 20}, {40, 1, 1, 40, 1, 1}, {1, 1, 9000, 1, 40, 9000},
		{5, 3, 2000, 6, 3, 1500},
	} {
		for _, k := range few() {
			a, b := random(d, c.rows, c.n, c.bits), random(d, c.otherRows, c.otherN, c.otherBits)
			got, e := ruleOf(t, k).Mul(a, b)
			if e != api.OK {
				t.Errorf("P8.2: Mul of %v of %v: error %d", k, c, e)
			}
			if want := k.product(toBigOp(a), toBigOp(b)); !isOp(got, want) {
				t.Errorf("P8.2: Mul of %v of %v", k, c)
			}
		}
	}
}

// mul multiplies where nothing is refused.
func mul(t *testing.T, r *ore.Rule, a, b api.Op) api.Op {
	t.Helper()
	out, e := r.Mul(a, b)
	if e != api.OK {
		t.Fatalf("P8.2: Mul of %s and %s: error %d", name(a...), name(b...), e)
	}
	return out
}

func small() []api.Op {
	return append(plain(), padded(plain()[12]), api.Op{nil, zeros()}, random(rand.New(rand.NewSource(82)), 3, 3, 20))
}

func TestProductsAssociate(t *testing.T) {
	for _, k := range few() {
		r := ruleOf(t, k)
		for _, a := range small() {
			for _, b := range small() {
				ab := mul(t, r, a, b)
				for _, c := range small() {
					left, right := mul(t, r, ab, c), mul(t, r, a, mul(t, r, b, c))
					if !ore.Eq(left, right) {
						t.Errorf("P8.2: %v: (a b) c is %s, a (b c) is %s", k, name(left...), name(right...))
					}
				}
			}
		}
	}
}

func TestProductsGoOverSums(t *testing.T) {
	for _, k := range few() {
		r := ruleOf(t, k)
		for _, a := range small() {
			for _, b := range small() {
				for _, c := range small() {
					left := ore.Eq(mul(t, r, a, ore.Add(b, c)), ore.Add(mul(t, r, a, b), mul(t, r, a, c)))
					right := ore.Eq(mul(t, r, ore.Sub(a, b), c), ore.Sub(mul(t, r, a, c), mul(t, r, b, c)))
					if !left || !right {
						t.Errorf("P8.2: %v: %v, %v of %s, %s, %s", k, left, right, name(a...), name(b...), name(c...))
					}
				}
			}
		}
	}
}

func TestOrdersAdd(t *testing.T) {
	for _, k := range few() {
		r := ruleOf(t, k)
		for _, a := range small() {
			for _, b := range small() {
				want := ore.Order(a) + ore.Order(b)
				if ore.Order(a) < 0 || ore.Order(b) < 0 {
					want = -1
				}
				if got := ore.Order(mul(t, r, a, b)); got != want {
					t.Errorf("P8.2: %v: order %d, not %d", k, got, want)
				}
			}
		}
	}
}

func TestPower(t *testing.T) {
	for _, k := range few() {
		r := ruleOf(t, k)
		for _, a := range append(plain(), padded(plain()[8]), zeroOps()[2]) {
			x := toBigOp(a)
			want := bigOp{toBig(p(1))}
			for n := range 5 {
				what := fmt.Sprintf("P8.2: Power %d of %v of %s", n, k, name(a...))
				got, e := r.Power(a, n)
				if e != api.OK {
					t.Errorf("%s: error %d", what, e)
				}
				expectOp(t, what, got, want)
				want = k.product(want, x)
			}
		}
	}
}

func TestPowersOfTheLetter(t *testing.T) {
	for _, k := range few() {
		r := ruleOf(t, k)
		for _, n := range []int{1, 2, 3, 63, 64} {
			want := make(bigOp, n+1)
			want[n] = toBig(p(1))
			got, e := r.Power(padded(api.Op{nil, p(1)}), n)
			if e != api.OK {
				t.Errorf("P8.2: Power %d of %v: error %d", n, k, e)
			}
			expectOp(t, fmt.Sprintf("P8.2: Power %d", n), got, want)
			if got, e = r.Power(api.Op{p(-1)}, n); e != api.OK || !ore.Eq(got, api.Op{p(int64(1 - n%2*2))}) {
				t.Errorf("P8.2: Power %d of -1: %v, error %d", n, got, e)
			}
		}
	}
}

func TestPowersOfNothing(t *testing.T) {
	for _, k := range kinds() {
		r := ruleOf(t, k)
		for _, z := range zeroOps() {
			for _, n := range []int{1, 2, 64} {
				if got, e := r.Power(z, n); e != api.OK || len(got) > 0 {
					t.Errorf("P8.2: Power %d of zero: %v, error %d", n, got, e)
				}
			}
		}
		for _, a := range append(samples(), sized(5000, 0, 1)) {
			got, e := r.Power(a, 0)
			if e != api.OK {
				t.Errorf("P8.2: Power 0: error %d", e)
			}
			expectOp(t, "P8.2: Power 0", got, bigOp{toBig(p(1))})
		}
	}
}

func TestPowerOutOfRange(t *testing.T) {
	for _, k := range few() {
		r := ruleOf(t, k)
		// One is too great as well: ErrArg is told first.
		for _, a := range append(plain(), nil, sized(2000, 0, 1)) {
			for _, n := range []int{math.MinInt, -64, -1, 65, 66, 128, 1<<32 + 1, math.MaxInt} {
				if got, e := r.Power(a, n); e != api.ErrArg || len(got) > 0 {
					t.Errorf("P8.2: Power %d: %v, error %d", n, got, e)
				}
			}
		}
	}
}

// refusedFrom tells the least n at which a product on the way to the n-th power
// is refused, 65 if there is none, and gives the greatest power below it.
func refusedFrom(k kind, a bigOp) (int, bigOp) {
	power := a
	for n := 2; n <= 64; n++ {
		if k.mulEstimate(power, a) > api.MaxBits {
			return n, power
		}
		power = k.product(power, a)
	}
	return 65, power
}

func TestPowerThatIsRefused(t *testing.T) {
	for _, k := range append(few(), kind{api.QShift, bitsOf(200)}) {
		r := ruleOf(t, k)
		for _, a := range []api.Op{{p(1, 1), p(1)}, {p(-1), p(1)}, {nil, p(0, 1)}, {p(0, 2)}, {p(3)}, {nil, nil, nil, p(1)}, sized(3, 3, 400), {p(1), p(0, 0, 0, 0, 1)}} {
			from, last := refusedFrom(k, toBigOp(a))
			for _, n := range []int{from - 1, from, from + 1, 63, 64} {
				if n > 64 {
					continue
				}
				got, e := r.Power(a, n)
				if n < from && e != api.OK || n >= from && (e != api.ErrBig || len(got) > 0) {
					t.Errorf("P8.2: Power %d of %v of %s: error %d", n, k, name(a...), e)
				}
				if n == from-1 {
					expectOp(t, fmt.Sprintf("P8.2: Power %d of %v of %s", n, k, name(a...)), got, last)
				}
			}
		}
	}
	// A power of one alone is no product.
	great := sized(3000, 20, 5000)
	if got, e := ruleOf(t, few()[0]).Power(padded(great), 1); e != api.OK || !isOp(got, toBigOp(great)) {
		t.Errorf("P8.2: Power 1 of a great one: error %d", e)
	}
	if got, e := ruleOf(t, few()[0]).Power(great, 2); e != api.ErrBig || len(got) > 0 {
		t.Errorf("P8.2: Power 2 of a great one: error %d", e)
	}
}

func TestApply(t *testing.T) {
	for i, k := range kinds() {
		r := ruleOf(t, k)
		for j, a := range samples() {
			for l, f := range polys() {
				if k.algebra == api.QShift && (i+j+l)%6 > 0 {
					continue
				}
				x, g := toBigOp(a), toBig(f)
				what := "P8.2: Apply of " + k.String() + " of " + name(a...) + " on " + name(f)
				got, e := r.Apply(a, f)
				if k.applyEstimate(x, g) > api.MaxBits {
					if e != api.ErrBig || len(got) > 0 {
						t.Errorf("%s: %v, error %d", what, got, e)
					}
					continue
				}
				if e != api.OK {
					t.Errorf("%s: error %d", what, e)
				}
				expectPoly(t, what, got, k.apply(x, g))
			}
		}
	}
}

func TestApplyOfTheDocument(t *testing.T) {
	got, e := ruleOf(t, few()[0]).Apply(api.Op{p(-1), p(1)}, p(0, 0, 1))
	if e != api.OK || !upoly.Eq(got, p(1, 2)) {
		t.Errorf("P8.2: S - 1 on x^2: %v, error %d", got, e)
	}
	got, e = ruleOf(t, few()[1]).Apply(api.Op{nil, p(0, 1)}, p(0, 0, 0, 1))
	if e != api.OK || !upoly.Eq(got, p(0, 0, 0, 3)) {
		t.Errorf("P8.2: x D on x^3: %v, error %d", got, e)
	}
	got, e = ruleOf(t, few()[2]).Apply(api.Op{nil, nil, p(0, 1)}, p(1, 0, 3))
	if e != api.OK || !upoly.Eq(got, p(0, 1, 0, 48)) {
		t.Errorf("P8.2: x Q^2 on 3x^2 + 1, with q -2: %v, error %d", got, e)
	}
}

func TestApplyOfAProduct(t *testing.T) {
	fs := []api.Poly{nil, p(1), p(0, 1), p(4, -3, 0, 0, 2), paddedPoly(p(-1, 0, 5)), {bitsOf(90), bitsOf(70)}}
	for _, k := range few() {
		r := ruleOf(t, k)
		for _, a := range small() {
			for _, b := range small() {
				for _, f := range fs {
					inner, e := r.Apply(b, f)
					if e != api.OK {
						t.Fatalf("P8.2: Apply: error %d", e)
					}
					twice, e1 := r.Apply(a, inner)
					once, e2 := r.Apply(mul(t, r, a, b), f)
					if e1 != api.OK || e2 != api.OK || !upoly.Eq(twice, once) {
						t.Errorf("P8.2: %v: %s, then %s: %s (error %d), %s (error %d)", k, name(b...), name(a...), name(once), e2, name(twice), e1)
					}
				}
			}
		}
	}
}
