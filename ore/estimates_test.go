package ore_test

import (
	"testing"

	"ashlar/api"
	"ashlar/limbs"
	"ashlar/upoly"
)

// size is that of an operator: order, degree, bits.
type size struct{ order, degree, bits int }

func (s size) op() api.Op {
	if s.bits == 0 {
		return zeroOps()[2]
	}
	return sized(s.order, s.degree, s.bits)
}

// withBits gives an algebra whose q has so many bits.
func withBits(algebra, bits int) kind {
	if algebra == api.QShift {
		return kind{algebra, limbs.Neg(bitsOf(bits))}
	}
	// A q that is passed over says nothing in the estimates.
	return kind{algebra, bitsOf(bits + 1)}
}

func TestMulAtMaxBits(t *testing.T) {
	const most = api.MaxBits
	for _, c := range []struct {
		a, b    size
		algebra int
		q       int
		want    int
	}{
		{size{0, 0, 1}, size{0, 0, 1<<19 - 10}, api.Shift, 9, most},
		{size{0, 0, 1}, size{0, 0, 1<<19 - 9}, api.Shift, 9, most + 2},
		{size{0, 0, 1<<19 - 12}, size{0, 0, 3}, api.QShift, 2000, most},
		{size{0, 0, 1<<19 - 11}, size{0, 0, 3}, api.QShift, 2000, most + 2},
		// Zero has order, degree and bits of 0, and the product is refused all the same.
		{size{}, size{0, 0, 1<<19 - 9}, api.Diff, 0, most},
		{size{}, size{0, 0, 1<<19 - 8}, api.Diff, 0, most + 2},
		{size{0, 0, 1<<19 - 9}, size{}, api.Diff, 0, most},
		{size{0, 0, 1<<19 - 8}, size{}, api.Diff, 0, most + 2},
		// As near above as can be: 2^20 + 1 is 17 times 61681.
		{size{0, 10, 61681 - 8 - 6 - 20}, size{0, 5, 20}, api.Diff, 0, most + 1},
		{size{0, 5, 20}, size{0, 10, 61681 - 8 - 11 - 20}, api.Shift, 0, most + 1},
		{size{3, 1, 16384 - 16 - 5}, size{3, 1, 5}, api.Shift, 40, most},
		{size{3, 1, 16384 - 16 - 4}, size{3, 1, 5}, api.Shift, 40, most + 64},
		{size{3, 1, 16384 - 16 - 5}, size{3, 1, 5}, api.Diff, 40, most},
		{size{3, 1, 5}, size{3, 1, 16384 - 16 - 4}, api.Diff, 40, most + 64},
		{size{3, 1, 16384 - 16 - 6*40 - 5}, size{3, 1, 5}, api.QShift, 40, most},
		{size{3, 1, 16384 - 16 - 6*40 - 4}, size{3, 1, 5}, api.QShift, 40, most + 64},
		{size{3, 1, 4}, size{3, 1, 16384 - 16 - 6 - 4}, api.QShift, 1, most},
		{size{3, 1, 4}, size{3, 1, 16384 - 16 - 6 - 3}, api.QShift, 1, most + 64},
		// The bits of q make it alone.
		{size{1, 0, 1}, size{0, 0, 1}, api.QShift, 1<<18 - 12, most},
		{size{1, 0, 1}, size{0, 0, 1}, api.QShift, 1<<18 - 11, most + 4},
		// Orders, one and the other, and degrees.
		{size{63, 0, 50}, size{3, 0, 4096/2 - 50 - 64 - 8}, api.Shift, 0, most},
		{size{63, 0, 50}, size{3, 0, 4096/2 - 50 - 64 - 7}, api.Shift, 0, most + 512},
		{size{3, 0, 50}, size{63, 0, 4096/2 - 50 - 4 - 8}, api.Shift, 0, most},
		{size{3, 0, 50}, size{63, 0, 4096/2 - 50 - 4 - 7}, api.Shift, 0, most + 512},
		{size{1, 1022, 480}, size{0, 0, 22}, api.Diff, 0, 2 * 1024 * (480 + 22 + 2 + 8)},
		{size{1, 1022, 480}, size{0, 0, 23}, api.Diff, 0, 2 * 1024 * (480 + 23 + 2 + 8)},
		{size{0, 0, 1}, size{0, 510, 2048 - 1 - 511 - 8}, api.QShift, 64, most},
		{size{0, 0, 1}, size{0, 510, 2048 - 511 - 8}, api.QShift, 64, most + 512},
	} {
		k := withBits(c.algebra, c.q)
		a, b := c.a.op(), c.b.op()
		if got := k.mulEstimate(toBigOp(a), toBigOp(b)); got != c.want {
			t.Fatalf("the test's own %v: estimate %d", c, got)
		}
		r := ruleOf(t, k)
		for _, x := range []api.Op{a, padded(a)} {
			got, e := r.Mul(x, padded(b))
			if c.want > most && (e != api.ErrBig || len(got) > 0) {
				t.Errorf("P8.2: Mul of %v: %d entries, error %d", c, len(got), e)
			}
			if c.want <= most && (e != api.OK || !isOp(got, k.product(toBigOp(a), toBigOp(b)))) {
				t.Errorf("P8.2: Mul of %v: error %d", c, e)
			}
		}
	}
}

func TestApplyAtMaxBits(t *testing.T) {
	const most = api.MaxBits
	for _, c := range []struct {
		a            size
		degree, bits int
		algebra, q   int
		want         int
	}{
		{size{0, 0, 7}, 1, 1<<18 - 7 - 24, api.Shift, 50, most},
		{size{0, 0, 7}, 1, 1<<18 - 6 - 24, api.Shift, 50, most + 4},
		{size{0, 0, 1<<18 - 7 - 24}, 1, 7, api.Diff, 50, most},
		{size{0, 0, 1<<18 - 6 - 24}, 1, 7, api.Diff, 50, most + 4},
		{size{0, 0, 7}, 1, 1<<18 - 7 - 24 - 150, api.QShift, 50, most},
		{size{0, 0, 7}, 1, 1<<18 - 6 - 24 - 150, api.QShift, 50, most + 4},
		// Of zero the degree is -1 here, and not 0.
		{size{0, 0, 1<<19 - 8}, -1, 0, api.Shift, 0, most},
		{size{0, 0, 1<<19 - 7}, -1, 0, api.Shift, 0, most + 2},
		{size{}, 1, 1<<18 - 24, api.Diff, 0, most},
		{size{}, 1, 1<<18 - 23, api.Diff, 0, most + 4},
		// As near above as can be.
		{size{0, 10, 61681 - 6*8 - 20}, 4, 20, api.Shift, 0, most + 1},
		{size{0, 4, 20}, 10, 61681 - 12*8 - 20, api.Diff, 0, most + 1},
		{size{16, 0, 20}, 1, 15420 - 17*3*8 - 20, api.Diff, 0, most - 16},
		{size{16, 0, 20}, 1, 15421 - 17*3*8 - 20, api.Diff, 0, most + 52},
		{size{7, 5, 16384 - 8*2*8 - 9}, 0, 9, api.Shift, 0, most},
		{size{7, 5, 16384 - 8*2*8 - 8}, 0, 9, api.Shift, 0, most + 64},
		{size{7, 3, 9}, 2, 16384 - 8*4*28 - 9, api.QShift, 20, most},
		{size{7, 3, 9}, 2, 16384 - 8*4*28 - 8, api.QShift, 20, most + 64},
		{size{7, 1018, 60}, -1, 0, api.Diff, 0, 8 * 1020 * (60 + 8*8)},
		{size{7, 1018, 65}, -1, 0, api.Diff, 0, 8 * 1020 * (65 + 8*8)},
	} {
		k := withBits(c.algebra, c.q)
		a := c.a.op()
		f := zeroPolys()[2]
		if c.degree >= 0 {
			f = paddedPoly(sizedPoly(c.degree, c.bits))
		}
		if got := k.applyEstimate(toBigOp(a), toBig(f)); got != c.want {
			t.Fatalf("the test's own %v: estimate %d", c, got)
		}
		got, e := ruleOf(t, k).Apply(padded(a), f)
		if c.want > most && (e != api.ErrBig || len(got) > 0) {
			t.Errorf("P8.2: Apply of %v: %d entries, error %d", c, len(got), e)
		}
		if c.want <= most && (e != api.OK || !isPoly(got, k.apply(toBigOp(a), toBig(f)))) {
			t.Errorf("P8.2: Apply of %v: error %d", c, e)
		}
	}
}

// Estimates above 2^62, those that are 0 modulo 2^64 among them.
func TestEstimatesBeyondTheTop(t *testing.T) {
	const many = 1 << 16
	for _, k := range []kind{withBits(api.Shift, 3), withBits(api.Diff, 3), withBits(api.QShift, 1<<24)} {
		r := ruleOf(t, k)
		for _, c := range [][2]size{
			{{many - 1, many / 2, many / 2}, {many - 1, many/2 - 2, many/2 - 8}},
			{{many - 1, many - 2, many - 9}, {many - 1, 0, 1}},
			{{1 << 20, 1 << 20, 1}, {1 << 20, 1 << 20, 1}},
			{{1 << 20, 0, 1}, {0, 1 << 20, 1}},
		} {
			if got, e := r.Mul(c[0].op(), c[1].op()); e != api.ErrBig || len(got) > 0 {
				t.Errorf("P8.2: Mul of %v of %v: %d entries, error %d", k, c, len(got), e)
			}
		}
		for _, c := range []struct {
			a            size
			degree, bits int
		}{
			{size{1<<20 - 1, 1<<20 - 3, 1<<24 - 1}, 0, 1},
			{size{1<<20 - 1, 0, 1<<24 - 1}, 1<<20 - 3, 1},
			{size{1<<20 - 1, 1<<20 - 2, 1 << 24}, -1, 0},
			{size{1 << 20, 1 << 10, 5}, 1 << 20, 1 << 20},
		} {
			f := api.Poly{}
			if c.degree >= 0 {
				f = sizedPoly(c.degree, c.bits)
			}
			if got, e := r.Apply(c.a.op(), f); e != api.ErrBig || len(got) > 0 {
				t.Errorf("P8.2: Apply of %v of %v: %d entries, error %d", k, c, len(got), e)
			}
		}
	}
}

// What is refused is so for its estimate, not for what comes of it.
func TestRefusedThoughSmall(t *testing.T) {
	r := ruleOf(t, few()[1])
	long := make(api.Op, 1<<12)
	long[len(long)-1] = upoly.Of(1)
	if got, e := r.Mul(long, nil); e != api.ErrBig || len(got) > 0 {
		t.Errorf("P8.2: Mul of a long one and zero: %v, error %d", got, e)
	}
	if got, e := r.Apply(long, nil); e != api.ErrBig || len(got) > 0 {
		t.Errorf("P8.2: Apply of a long one on zero: %v, error %d", got, e)
	}
	// Entries at the end that are zero say nothing, however many they are.
	none := make(api.Op, 1<<20)
	if got, e := r.Mul(none, none); e != api.OK || len(got) > 0 {
		t.Errorf("P8.2: Mul of zeros: %v, error %d", got, e)
	}
	if got, e := r.Apply(none, make(api.Poly, 1<<20)); e != api.OK || len(got) > 0 {
		t.Errorf("P8.2: Apply of zero: %v, error %d", got, e)
	}
	none[0] = p(0, 3)
	if got, e := r.Mul(none, api.Op{p(1), p(0, 1)}); e != api.OK || !isOp(got, toBigOp(api.Op{p(0, 3), p(0, 0, 3)})) {
		t.Errorf("P8.2: Mul of 3x with zeros behind it: %d entries, error %d", len(got), e)
	}
}
