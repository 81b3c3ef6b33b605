package euclid_test

import (
	"reflect"
	"testing"

	"ashlar/api"
	"ashlar/euclid"
	"ashlar/gauge"
	"ashlar/limbs"
	"ashlar/ore"
)

// expectDivideError asks Divide and Divides for an error, and for nothing beside
// it.
func expectDivideError(t *testing.T, r *ore.Rule, a, b api.Op, want api.Errno) {
	t.Helper()
	c, q, s, e := euclid.Divide(r, a, b)
	if e != want || len(c)+len(q)+len(s) > 0 {
		t.Errorf("P10.1, P10.4: Divide of %s by %s: %v, %v, %v, error %d, not %d", name(a), name(b), c, q, s, e, want)
	}
	if is, e := euclid.Divides(r, b, a); e != want || is {
		t.Errorf("P10.1, P10.4: Divides of %s and %s: %v, error %d, not %d", name(b), name(a), is, e, want)
	}
}

func expectCommonError(t *testing.T, r *ore.Rule, a, b api.Op, want api.Errno) {
	t.Helper()
	if c, e := euclid.Common(r, a, b); e != want || !reflect.DeepEqual(c, api.Common{}) {
		t.Errorf("P10.2, P10.4: Common of %s and %s: %v, error %d, not %d", name(a), name(b), c, e, want)
	}
}

func expectMultipleError(t *testing.T, r *ore.Rule, a, b api.Op, want api.Errno) {
	t.Helper()
	if m, e := euclid.Multiple(r, a, b); e != want || !reflect.DeepEqual(m, api.Multiple{}) {
		t.Errorf("P10.3, P10.4: Multiple of %s and %s: %v, error %d, not %d", name(a), name(b), m, e, want)
	}
}

// far is too great for all calls.
func far() api.Op {
	out := make(api.Op, 5000)
	out[4999] = p(1)
	return out
}

// Of several errors the first is told: no rule, then zero, then too great.
func TestErrorsInTheirOrder(t *testing.T) {
	one := api.Op{p(0, 1), p(1)}
	// A rule that New has not made is none either.
	for _, r := range []*ore.Rule{nil, {}} {
		for _, a := range []api.Op{nil, one, far()} {
			for _, b := range []api.Op{nil, one, far()} {
				expectDivideError(t, r, a, b, api.ErrArg)
				expectCommonError(t, r, a, b, api.ErrArg)
				expectMultipleError(t, r, a, b, api.ErrArg)
			}
		}
	}
	for _, k := range kinds() {
		r := ruleOf(t, k)
		for _, z := range zeroOps() {
			for _, a := range []api.Op{one, far(), padded(one), z, nil} {
				expectDivideError(t, r, a, z, api.ErrZero)
				expectMultipleError(t, r, a, z, api.ErrZero)
				expectMultipleError(t, r, z, a, api.ErrZero)
			}
			for _, y := range zeroOps() {
				expectCommonError(t, r, z, y, api.ErrZero)
			}
			// One zero is none too many here.
			expectDivideError(t, r, z, far(), api.ErrBig)
			expectCommonError(t, r, z, far(), api.ErrBig)
			expectCommonError(t, r, far(), z, api.ErrBig)
		}
		for _, a := range []api.Op{one, far()} {
			expectDivideError(t, r, a, far(), api.ErrBig)
			expectDivideError(t, r, far(), a, api.ErrBig)
			expectCommonError(t, r, a, far(), api.ErrBig)
			expectCommonError(t, r, far(), a, api.ErrBig)
			expectMultipleError(t, r, a, far(), api.ErrBig)
			expectMultipleError(t, r, far(), a, api.ErrBig)
		}
	}
}

// withBits gives an algebra whose q has so many bits.
func withBits(algebra, bits int) kind {
	if algebra == api.QShift {
		return kind{algebra, limbs.Neg(bitsOf(bits))}
	}
	// A q that is passed over says nothing in the estimates.
	return kind{algebra, bitsOf(bits + 1)}
}

// edge is a pair of sizes, with the estimate that the document's table gives it.
type edge struct {
	a, b    size
	algebra int
	q       int
	want    int
}

const most = api.MaxBits

func TestDivideAtMaxBits(t *testing.T) {
	for _, c := range []edge{
		// 1, 1, 2, 2 and k + l + 2 + 8.
		{size{0, 0, 1 << 17}, size{0, 0, 1<<17 - 10}, api.Shift, 70, most},
		{size{0, 0, 1 << 17}, size{0, 0, 1<<17 - 9}, api.Shift, 70, most + 4},
		{size{0, 0, 1<<17 - 80}, size{0, 0, 1 << 17}, api.QShift, 70, most},
		{size{0, 0, 1<<17 - 79}, size{0, 0, 1 << 17}, api.QShift, 70, most + 4},
		// As near above as can be: 2^20 + 2 is 2 times 3 times 174763.
		{size{0, 1, 174763 - 10 - 9}, size{0, 0, 9}, api.Diff, 0, most + 2},
		{size{0, 0, 9}, size{0, 1, 174763 - 10 - 9}, api.Shift, 0, most + 2},
		{size{0, 0, 9}, size{0, 1, 174762 - 10 - 9}, api.Shift, 0, most - 4},
		// 2, 2, 4, 4 and k + l + 4 + 8.
		{size{1, 1, 9000}, size{1, 1, 1<<14 - 12 - 9000}, api.Shift, 30, most},
		{size{1, 1, 9000}, size{1, 1, 1<<14 - 11 - 9000}, api.Shift, 30, most + 64},
		{size{1, 2, 9000}, size{1, 0, 1<<14 - 12 - 9000}, api.Diff, 30, most},
		{size{1, 0, 9000}, size{1, 2, 1<<14 - 11 - 9000}, api.Diff, 30, most + 64},
		{size{1, 1, 9000}, size{1, 1, 1<<14 - 12 - 60 - 9000}, api.QShift, 30, most},
		{size{1, 1, 9000}, size{1, 1, 1<<14 - 11 - 60 - 9000}, api.QShift, 30, most + 64},
		// 4, 2, 6, 2 and k + l + 4 (m + 2) + 8; the other way round 2 (m + 2), and the
		// order of a is the lesser one: the quotient is zero, and it is refused all the same.
		{size{3, 0, 900}, size{1, 0, 10922 - 16 - 900}, api.Shift, 0, 96 * 10922},
		{size{3, 0, 900}, size{1, 0, 10923 - 16 - 900}, api.Shift, 0, 96 * 10923},
		{size{1, 0, 900}, size{3, 0, 10922 - 12 - 900}, api.Shift, 0, 96 * 10922},
		{size{1, 0, 900}, size{3, 0, 10923 - 12 - 900}, api.Shift, 0, 96 * 10923},
		{size{3, 0, 900}, size{1, 0, 10922 - 16 - 40 - 900}, api.QShift, 10, 96 * 10922},
		{size{3, 0, 900}, size{1, 0, 10923 - 16 - 40 - 900}, api.QShift, 10, 96 * 10923},
		{size{1, 0, 900}, size{3, 0, 10922 - 12 - 20 - 900}, api.QShift, 10, 96 * 10922},
		{size{1, 0, 900}, size{3, 0, 10923 - 12 - 20 - 900}, api.QShift, 10, 96 * 10923},
		// The bits of q make it alone: 2, 1, 3, 2 and 1 + 1 + 2 (m + 2) + 8.
		{size{1, 0, 1}, size{0, 0, 1}, api.QShift, (87381 - 14) / 2, 12 * 87380},
		{size{1, 0, 1}, size{0, 0, 1}, api.QShift, (87381-14)/2 + 1, 12 * 87382},
		// Zero has order, degree and bits of 0: 1, 2, 3, 2 and l + 2 + 8.
		{size{}, size{1, 0, 87381 - 10}, api.Diff, 0, 12 * 87381},
		{size{}, size{1, 0, 87382 - 10}, api.Diff, 0, 12 * 87382},
		{size{}, size{0, 126, 4096 - 10}, api.Shift, 0, 2 * 128 * 4096},
		{size{}, size{0, 126, 4096 - 9}, api.Shift, 0, 2 * 128 * 4097},
		// Orders and degrees.
		{size{20, 0, 1}, size{20, 0, 1}, api.Shift, 0, 21 * 21 * 42 * 2 * 52},
		{size{16, 0, 1}, size{15, 0, 1}, api.Shift, 0, 17 * 16 * 33 * 2 * 44},
		{size{16, 0, 1}, size{15, 0, 15}, api.Shift, 0, 17 * 16 * 33 * 2 * 58},
		{size{16, 0, 1}, size{15, 0, 16}, api.Shift, 0, 17 * 16 * 33 * 2 * 59},
		{size{1, 200, 300}, size{1, 54, 1<<8 - 12 - 200}, api.Shift, 0, 16 * 256 * 356},
		{size{3, 20, 40}, size{1, 10, 341 - 16 - 40}, api.Diff, 0, 48 * 32 * 341},
		{size{3, 20, 40}, size{1, 10, 683 - 16 - 40}, api.Diff, 0, 48 * 32 * 683},
		{size{3, 20, 40}, size{1, 10, 682 - 16 - 40}, api.Diff, 0, 48 * 32 * 682},
	} {
		k := withBits(c.algebra, c.q)
		a, b := c.a.op(1), c.b.op(2)
		x := algebraOf(t, k)
		if got := k.divideEstimate(a, b); got != c.want || gauge.Divide(a, b, x.rule.Q()) != c.want {
			t.Fatalf("the test's own %v: estimate %d", c, got)
		}
		if c.want > most {
			expectDivideError(t, x.rule, a, b, api.ErrBig)
			expectDivideError(t, x.rule, padded(a), padded(b), api.ErrBig)
			continue
		}
		x.divided(a, b)
		x.divided(padded(a), padded(b))
	}
}

func TestCommonAtMaxBits(t *testing.T) {
	for _, c := range []edge{
		// N is 2: 8, 2 and k + l + 2 + 8.
		{size{0, 0, 1 << 15}, size{0, 0, 1<<15 - 10}, api.Shift, 70, most},
		{size{0, 0, 1 << 15}, size{0, 0, 1<<15 - 9}, api.Shift, 70, most + 16},
		{size{0, 0, 1 << 15}, size{0, 0, 1<<15 - 80}, api.QShift, 70, most},
		{size{0, 0, 1 << 15}, size{0, 0, 1<<15 - 79}, api.QShift, 70, most + 16},
		// 8, 2 (d + e) + 2 and k + l + 10.
		{size{0, 20, 1 << 10}, size{0, 11, 1<<11 - 10 - 1<<10}, api.Diff, 0, most},
		{size{0, 20, 1 << 10}, size{0, 11, 1<<11 - 9 - 1<<10}, api.Diff, 0, most + 512},
		// N is 3: 27, 3 (d + e) + 2 and k + l + 2 (m + 2) + 8.
		{size{1, 1, 60}, size{0, 1, 4854 - 60 - 12}, api.Shift, 0, 27 * 8 * 4854},
		{size{1, 1, 60}, size{0, 1, 4855 - 60 - 12}, api.Shift, 0, 27 * 8 * 4855},
		{size{0, 1, 60}, size{1, 1, 4854 - 60 - 12 - 80}, api.QShift, 40, 27 * 8 * 4854},
		{size{0, 1, 60}, size{1, 1, 4855 - 60 - 12 - 80}, api.QShift, 40, 27 * 8 * 4855},
		// N is 4: 64, 2 and k + l + 3 (m + 2) + 8.
		{size{1, 0, 4000}, size{1, 0, 1<<13 - 14 - 4000}, api.Diff, 9, most},
		{size{1, 0, 4000}, size{1, 0, 1<<13 - 13 - 4000}, api.Diff, 9, most + 128},
		{size{2, 0, 4000}, size{0, 0, 1<<13 - 14 - 4000}, api.Shift, 9, most},
		{size{0, 0, 4000}, size{2, 0, 1<<13 - 13 - 4000}, api.Shift, 9, most + 128},
		{size{1, 0, 4000}, size{1, 0, 1<<13 - 14 - 27 - 4000}, api.QShift, 9, most},
		{size{1, 0, 4000}, size{1, 0, 1<<13 - 13 - 27 - 4000}, api.QShift, 9, most + 128},
		// N is 6: 216, 6 (d + e) + 2 and k + l + 5 (m + 2) + 8.
		{size{2, 1, 500}, size{2, 0, 606 - 18 - 500}, api.Shift, 0, 216 * 8 * 606},
		{size{2, 1, 500}, size{2, 0, 607 - 18 - 500}, api.Shift, 0, 216 * 8 * 607},
		{size{3, 0, 500}, size{1, 1, 606 - 18 - 500}, api.Diff, 0, 216 * 8 * 606},
		{size{1, 0, 500}, size{3, 1, 607 - 18 - 500}, api.Diff, 0, 216 * 8 * 607},
		{size{2, 1, 500}, size{2, 0, 606 - 18 - 50 - 500}, api.QShift, 10, 216 * 8 * 606},
		{size{2, 1, 500}, size{2, 0, 607 - 18 - 50 - 500}, api.QShift, 10, 216 * 8 * 607},
		// Many orders, many degrees.
		{size{10, 0, 1}, size{9, 0, 8}, api.Shift, 0, 21 * 21 * 21 * 2 * 57},
		{size{10, 0, 1}, size{9, 0, 7}, api.Shift, 0, 21 * 21 * 21 * 2 * 56},
		{size{3, 5, 1}, size{3, 5, 2}, api.Shift, 0, 512 * 82 * 25},
		{size{3, 5, 1}, size{3, 5, 1}, api.Shift, 0, 512 * 82 * 24},
		{size{1, 127, 1}, size{1, 128, 2}, api.Diff, 0, 64 * 1022 * 17},
		{size{1, 127, 1}, size{1, 128, 1}, api.Diff, 0, 64 * 1022 * 16},
		{size{1, 30, 1}, size{1, 30, 1}, api.QShift, 16, 64 * 242 * 64},
		{size{1, 30, 2}, size{1, 30, 3}, api.QShift, 16, 64 * 242 * 67},
		{size{1, 30, 2}, size{1, 30, 4}, api.QShift, 16, 64 * 242 * 68},
	} {
		c.hold(t)
	}
}

// hold holds Common and Multiple against the edge.
func (c edge) hold(t *testing.T) {
	t.Helper()
	k := withBits(c.algebra, c.q)
	a, b := c.a.op(3), c.b.op(4)
	x := algebraOf(t, k)
	if got := k.commonEstimate(a, b); got != c.want || gauge.Common(a, b, x.rule.Q()) != c.want {
		t.Fatalf("the test's own %v: estimate %d", c, got)
	}
	if c.want > most {
		for _, z := range []api.Op{a, padded(a)} {
			expectCommonError(t, x.rule, z, b, api.ErrBig)
			expectMultipleError(t, x.rule, z, padded(b), api.ErrBig)
		}
		return
	}
	x.common(a, padded(b))
	x.multiple(padded(a), b)
}

// Zero has order, degree and bits of 0.
func TestCommonWithZeroAtMaxBits(t *testing.T) {
	for _, c := range []edge{
		// N is 3: 27, 2 and l + 2 (m + 2) + 8.
		{size{}, size{1, 0, 19418 - 12}, api.Shift, 0, 54 * 19418},
		{size{}, size{1, 0, 19419 - 12}, api.Shift, 0, 54 * 19419},
		{size{}, size{1, 0, 19418 - 12 - 40}, api.QShift, 20, 54 * 19418},
		{size{}, size{1, 0, 19419 - 12 - 40}, api.QShift, 20, 54 * 19419},
		// N is 4: 64, 4 e + 2 and l + 3 (m + 2) + 8.
		{size{}, size{2, 8, 481 - 14}, api.Diff, 0, 64 * 34 * 481},
		{size{}, size{2, 8, 482 - 14}, api.Diff, 0, 64 * 34 * 482},
	} {
		k := withBits(c.algebra, c.q)
		x := algebraOf(t, k)
		z, b := c.a.op(5), c.b.op(6)
		if k.commonEstimate(z, b) != c.want || k.commonEstimate(b, z) != c.want {
			t.Fatalf("the test's own %v: estimate %d", c, k.commonEstimate(z, b))
		}
		if c.want > most {
			expectCommonError(t, x.rule, z, b, api.ErrBig)
			expectCommonError(t, x.rule, b, z, api.ErrBig)
			continue
		}
		x.common(z, b)
		x.common(b, z)
	}
}

// What is refused is so for its estimate, not for what comes of it.
func TestRefusedThoughSmall(t *testing.T) {
	for _, k := range few() {
		r := ruleOf(t, k)
		long := make(api.Op, 70)
		long[69] = p(1)
		expectDivideError(t, r, long, long, api.ErrBig)
		expectDivideError(t, r, nil, far(), api.ErrBig)
		expectCommonError(t, r, long, long, api.ErrBig)
		expectMultipleError(t, r, long, api.Op{p(1)}, api.ErrBig)
		// Entries at the end that are zero say nothing, however many they are.
		x := algebraOf(t, k)
		none := make(api.Op, 1<<20)
		none[1] = p(0, 3)
		b := api.Op{p(1), append(p(0, 1), make(api.Poly, 1<<20)...)}
		x.divided(none, b)
		x.common(none, b)
		x.multiple(none, b)
	}
}

// Estimates above 2^62, those that are 0 modulo 2^64 among them.
func TestEstimatesBeyondTheTop(t *testing.T) {
	for _, k := range []kind{withBits(api.Shift, 3), withBits(api.Diff, 3), withBits(api.QShift, 1<<24)} {
		r := ruleOf(t, k)
		for _, n := range []int{1<<16 - 1, 1<<20 - 1, 1 << 20} {
			long, broad := make(api.Op, n+1), make(api.Poly, n+1)
			long[n], broad[n] = p(1), limbs.Of(1)
			long[0] = broad
			for _, b := range []api.Op{long, {broad}, {p(1)}} {
				expectDivideError(t, r, long, b, api.ErrBig)
				expectDivideError(t, r, b, long, api.ErrBig)
				expectCommonError(t, r, long, b, api.ErrBig)
				expectMultipleError(t, r, b, long, api.ErrBig)
			}
		}
	}
}
