package gauge_test

import (
	"math"
	"slices"
	"testing"

	"ashlar/api"
	"ashlar/gauge"
	"ashlar/limbs"
)

// The sides of 'and, if that is greater': below, the same, above.
func TestTheGreaterOfTwo(t *testing.T) {
	s, x := api.Op{nil, p(1)}, api.Op{p(1, 1)}
	one := func(bits int) []api.Rat { return []api.Rat{ratOf(bits)} }
	for i, c := range []struct{ got, want int }{
		// Term without a window is 308, 11 times 28.
		{gauge.Term(s, one(26), 10), 308}, {gauge.Term(s, one(27), 10), 308}, {gauge.Term(s, one(28), 10), 319},
		// The window's bits count, not its length.
		{gauge.Term(s, make([]api.Rat, 9999), 10), 308},
		// Close without windows is 240, Cauchy 640.
		{gauge.Close(s, x, one(118), nil), 240}, {gauge.Close(s, x, one(119), nil), 240}, {gauge.Close(s, x, one(120), nil), 242},
		{gauge.Close(s, x, nil, one(119)), 240}, {gauge.Close(s, x, nil, one(120)), 242},
		{gauge.Close(s, x, one(39), one(40)), 240}, {gauge.Close(s, x, one(40), one(40)), 243}, {gauge.Close(s, x, one(2), one(78)), 243},
		{gauge.Close(s, x, make([]api.Rat, 119), nil), 240}, {gauge.Close(s, x, make([]api.Rat, 120), nil), 242},
		{gauge.Close(s, x, make([]api.Rat, 40), make([]api.Rat, 39)), 240}, {gauge.Close(s, x, make([]api.Rat, 40), make([]api.Rat, 40)), 243},
		{gauge.Cauchy(s, x, one(319), nil), 640}, {gauge.Cauchy(s, x, one(320), nil), 642}, {gauge.Cauchy(s, x, nil, one(320)), 642},
		{gauge.Cauchy(s, x, one(100), one(112)), 640}, {gauge.Cauchy(s, x, one(101), one(112)), 642},
		{gauge.Cauchy(s, x, make([]api.Rat, 319), nil), 640}, {gauge.Cauchy(s, x, nil, make([]api.Rat, 320)), 642},
		// Cauchy looks at Close's windows, not at Close's operators.
		{gauge.Cauchy(opOf(9, 0, 1), opOf(9, 0, 1), nil, nil), 1 * 1 * 1 * 20 * 10},
	} {
		if c.got != c.want {
			t.Errorf("P9.2, %d: %d, not %d", i, c.got, c.want)
		}
	}
}

func TestWindowsInAnyForm(t *testing.T) {
	for _, c := range []struct {
		v    api.Rat
		bits int
	}{
		{api.Rat{}, 1}, {api.Rat{Num: bitsOf(5000)}, 1}, {api.Rat{Den: bitsOf(5000)}, 1},
		{api.Rat{Num: bitsOf(5000), Den: bitsOf(5000)}, 2}, {api.Rat{Num: bitsOf(5000), Den: bitsOf(4000)}, 1002},
		{api.Rat{Num: limbs.Neg(bitsOf(4000)), Den: wide(limbs.Neg(bitsOf(5000)))}, 1002},
		{raised(ratOf(90), bitsOf(3000)), 90}, {raised(ratOf(90), limbs.Of(-77)), 90},
		{api.Rat{Num: limbs.Of(1 << 40), Den: limbs.Of(1<<40 - 1)}, 41 + 40},
	} {
		for _, win := range [][]api.Rat{{c.v}, {c.v, {}}, {{}, c.v}, {{}, c.v, {}, c.v}} {
			if got := gauge.Term(nil, win, 1<<30-1); got != (1<<30)*max(c.bits+1, 31+8) {
				t.Errorf("P9.2: Term of a value of %d bits, %d values: %d", c.bits, len(win), got)
			}
			want := max((len(win)+1)*(c.bits+1), 8)
			if a, b := gauge.Close(nil, nil, win, nil), gauge.Close(nil, nil, nil, win); a != want || b != want {
				t.Errorf("P9.2: Close of a value of %d bits, %d values: %d, %d, not %d", c.bits, len(win), a, b, want)
			}
			want = max((2*len(win)+1)*(2*c.bits+1), 16)
			if got := gauge.Cauchy(nil, nil, win, win); got != want {
				t.Errorf("P9.2: Cauchy of a value of %d bits, %d values: %d, not %d", c.bits, len(win), got, want)
			}
		}
	}
}

// The greatest bits are those in lowest terms, wherever they stand.
func TestLongWindows(t *testing.T) {
	const many = 200000
	win := slices.Repeat([]api.Rat{raised(ratOf(9), limbs.Of(1<<40)), {}}, many/2)
	if got := gauge.Close(nil, nil, win, nil); got != (many+1)*10 {
		t.Errorf("P9.2: Close of a long window: %d", got)
	}
	for _, at := range []int{0, 1, many / 2, many - 1} {
		longer := slices.Clone(win)
		longer[at] = ratOf(20)
		if got := gauge.Close(nil, nil, longer, win); got != (2*many+1)*(20+9+1) {
			t.Errorf("P9.2: Close of long windows: %d", got)
		}
		if got := gauge.Cauchy(nil, nil, win, longer); got != (2*many+1)*(20+9+1) {
			t.Errorf("P9.2: Cauchy of long windows: %d", got)
		}
		if got := gauge.Term(nil, longer, 0); got != 21 {
			t.Errorf("P9.2: Term of a long window: %d", got)
		}
	}
}

func TestTermAtTheTop(t *testing.T) {
	for _, n := range []int{top/9 + 1, top/8 - 1, top - 2, top - 1, top, top + 1, math.MaxInt - 1, math.MaxInt} {
		for _, a := range ops() {
			if got := gauge.Term(a, nil, n); got != top {
				t.Errorf("P9.2: Term of (%v) at %d: %d", sizeOf(a), n, got)
			}
		}
	}
	for _, c := range []struct{ k, want int }{{192, 255 << 54}, {193, top}, {194, top}} {
		if got := gauge.Term(opOf(0, 0, c.k), nil, 1<<54-1); got != c.want {
			t.Errorf("P9.2: Term of %d bits at 2^54 - 1: %d", c.k, got)
		}
	}
	for _, c := range []struct{ bits, want int }{{1<<22 - 2, top - 1<<40}, {1<<22 - 1, top}, {1 << 22, top}} {
		if got := gauge.Term(nil, []api.Rat{ratOf(c.bits)}, 1<<40-1); got != c.want {
			t.Errorf("P9.2: Term of a value of %d bits at 2^40 - 1: %d", c.bits, got)
		}
	}
}

// Great operators: the products, and products and sums within a factor, reach
// 2^62, or are 0 or small modulo 2^64.
func TestGreatOperators(t *testing.T) {
	const many = 1 << 20
	long, broad := opOf(many, 0, 1), opOf(0, many-1, 1)
	both := opOf(many-1, many-1, 1)
	q := bitsOf(1 << 24)
	for _, c := range []struct {
		row
		given
	}{
		// r (e + 1) m is 2^64.
		{mulRow(), given{a: long, b: broad, q: q}},
		{mulRow(), given{a: both, b: both, q: bitsOf(1 << 22)}},
		{mulRow(), given{a: both, b: both}},
		{applyRow(), given{a: opOf(many-1, 0, 1), f: polyOf(many-2, 1), q: bitsOf(1<<24 - 8)}},
		{applyRow(), given{a: both, f: broad[0], q: q}},
		{divideRow(), given{a: long, b: long, q: q}},
		{divideRow(), given{a: both, b: both}},
		{commonRow(), given{a: long, b: long, q: q}},
		{commonRow(), given{a: both, b: broad}},
		{closeRow(), given{a: long, b: long}},
		{closeRow(), given{a: both, b: both}},
		{turnRow(), given{a: long}},
		{turnRow(), given{a: broad}},
		{cauchyRow(), given{a: broad, b: broad}},
		{cauchyRow(), given{a: both, b: both}},
	} {
		c.row.expect(t, c.given)
	}
	if got := gauge.Mul(long, broad, q); got != top {
		t.Errorf("P9.2: Mul at the top: %d", got)
	}
}

// Estimates just below 2^62, just it, and just above.
func TestJustTheTop(t *testing.T) {
	for _, c := range []struct {
		row
		given
		want int
	}{
		// N is 2^14; 2^42, and 1 and k + l + 8.
		{closeRow(), given{a: opOf(1<<7-1, 0, 1<<19), b: opOf(1<<7-1, 0, 1<<20-1<<19-9)}, (1<<20 - 1) << 42},
		{closeRow(), given{a: opOf(1<<7-1, 0, 1<<19), b: opOf(1<<7-1, 0, 1<<20-1<<19-8)}, top},
		{closeRow(), given{a: opOf(1<<7-1, 0, 1<<19), b: opOf(1<<7-1, 0, 1<<20-1<<19-7)}, top},
		// N is 2^10; 2^30, 2^10 (0 + 2 + 62) and k + l + 8.
		{cauchyRow(), given{a: opOf(0, 1<<5-1, 9), b: opOf(0, 1<<5-1, 1<<16-18)}, (1<<16 - 1) << 46},
		{cauchyRow(), given{a: opOf(0, 1<<5-1, 9), b: opOf(0, 1<<5-1, 1<<16-17)}, top},
		{cauchyRow(), given{a: opOf(0, 1<<5-1, 9), b: opOf(0, 1<<5-1, 1<<16-16)}, top},
		// N is 2^13; 2^39, 2 and k + 8.
		{turnRow(), given{a: opOf(1<<13-2, 0, 1<<22-9)}, (1<<22 - 1) << 40},
		{turnRow(), given{a: opOf(1<<13-2, 0, 1<<22-8)}, top},
		{turnRow(), given{a: opOf(1<<13-2, 0, 1<<22-7)}, top},
		// N is 2^13; 2^39, 2 and k + l + (2^13 - 1) 2 + 8.
		{commonRow(), given{a: opOf(1<<12-1, 0, 5), b: opOf(1<<12-1, 0, 1<<22-2*(1<<13-1)-14)}, (1<<22 - 1) << 40},
		{commonRow(), given{a: opOf(1<<12-1, 0, 5), b: opOf(1<<12-1, 0, 1<<22-2*(1<<13-1)-13)}, top},
		// 2^14, 2^14, 2^15, 2 and k + l + 2^14 2 + 8.
		{divideRow(), given{a: opOf(1<<14-1, 0, 5), b: opOf(1<<14-1, 0, 1<<18-1<<15-14)}, (1<<18 - 1) << 44},
		{divideRow(), given{a: opOf(1<<14-1, 0, 5), b: opOf(1<<14-1, 0, 1<<18-1<<15-13)}, top},
	} {
		if got := c.got(c.given); got != c.want {
			t.Errorf("P9.2: %s of %v: %d, not %d", c.name, c.given, got, c.want)
		}
		c.row.expect(t, c.given)
	}
}

func TestZerosAtTheEnd(t *testing.T) {
	const many = 1 << 20
	a := append(api.Op{p(0, 3)}, make(api.Op, many)...)
	f := append(p(0, 3), make(api.Poly, many)...)
	b := api.Op{f}
	q := api.Int{L: append([]uint32{3}, make([]uint32, many)...)}
	for _, r := range []row{mulRow(), applyRow(), divideRow(), commonRow(), termRow(), closeRow(), turnRow(), cauchyRow()} {
		short := given{a: api.Op{p(0, 3)}, b: api.Op{p(0, 3)}, f: p(0, 3), q: limbs.Of(3), n: 5}
		if got, want := r.got(given{a: a, b: b, f: f, q: q, n: 5}), r.want(short); got != want {
			t.Errorf("P9.2: %s with zeros at the end: %d, not %d", r.name, got, want)
		}
	}
}
