package seq_test

import (
	"math/bits"
	"math/rand"
	"slices"
	"testing"

	"ashlar/api"
	"ashlar/limbs"
)

func repeated(v api.Rat, n int) []api.Rat { return slices.Repeat([]api.Rat{v}, n) }

func TestTheLongestWindow(t *testing.T) {
	constant := api.Op{p(-1), p(1)}
	for _, v := range []api.Rat{{}, over(1, 1), over(-7, 3)} {
		for _, c := range []struct {
			n    int
			want api.Errno
		}{{4095, api.OK}, {4096, api.OK}, {4097, api.ErrArg}, {4098, api.ErrArg}, {20000, api.ErrArg}} {
			if e := expect(t, constant, repeated(v, c.n)); e != c.want {
				t.Errorf("P11.1: a window of %d values: %d, not %d", c.n, e, c.want)
			}
		}
	}
	broken := repeated(over(2, 1), 4096)
	broken[4095] = over(3, 1)
	if e := expect(t, constant, broken); e != api.ErrBreak {
		t.Errorf("P11.1: a window of 4,096 values, the last another: %d", e)
	}
	// All values may be free: those from 1 to 3 and the last one here.
	last := api.Op{p(-4), at(4094)}
	if e := expect(t, last, slices.Concat(repeated(over(0, 1), 4095), values(5))); e != api.OK {
		t.Errorf("P11.1: 4,095 is free, with 4,096 values: %d", e)
	}
	if e := expect(t, last, repeated(over(0, 1), 4095)); e != api.ErrUnder {
		t.Errorf("P11.1: 4,095 is free, with 4,095 values: %d", e)
	}
	if e := expect(t, api.Op{p(-4), at(4095)}, repeated(over(0, 1), 4096)); e != api.ErrUnder {
		t.Errorf("P11.1: 4,096 is free, with 4,096 values: %d", e)
	}
}

// far gives S^r, which is -1 in the power 0.
func far(r int) api.Op {
	out := make(api.Op, r+1)
	out[0], out[r] = p(-1), p(1)
	return out
}

func TestTheGreatestOrder(t *testing.T) {
	for _, c := range []struct {
		order, n int
		want     api.Errno
	}{
		{256, 0, api.ErrUnder}, {257, 0, api.ErrBig}, {258, 0, api.ErrBig}, {256, 100, api.ErrUnder}, {257, 100, api.ErrBig},
		{5000, 0, api.ErrBig}, {256, 255, api.ErrBig}, {256, 256, api.ErrBig},
		// 241 times 241 times 18 is below 2^20, 242 times 242 times 18 above.
		{240, 239, api.ErrUnder}, {240, 240, api.OK}, {241, 100, api.ErrUnder}, {241, 240, api.ErrBig}, {241, 241, api.ErrBig},
	} {
		for _, a := range []api.Op{far(c.order), padded(far(c.order)), append(far(c.order), make(api.Op, 1000)...)} {
			if e := expect(t, a, repeated(over(1, 2), c.n)); e != c.want {
				t.Errorf("P11.1: the order %d with %d values: %d, not %d", c.order, c.n, e, c.want)
			}
		}
	}
}

func TestTheGreatestDegree(t *testing.T) {
	power := func(d int) api.Poly { return append(make(api.Poly, d), limbs.Of(1)) }
	for _, c := range []struct {
		degree int
		want   api.Errno
	}{{255, api.OK}, {256, api.OK}, {257, api.ErrBig}, {258, api.ErrBig}, {3000, api.ErrBig}} {
		plus := power(c.degree)
		plus[0] = limbs.Of(1)
		for i, a := range []api.Op{
			{plus}, {paddedPoly(plus), nil}, {append(slices.Clone(plus), make(api.Poly, 900)...)},
			{power(c.degree), p(1)}, {p(1), plus}, {p(1), power(c.degree), p(1)}, {nil, power(c.degree), nil, p(4)},
		} {
			win := make([]api.Rat, len(a)-1)
			if e := expect(t, a, win); e != c.want {
				t.Errorf("P11.1, %d: the degree %d: %d, not %d", i, c.degree, e, c.want)
			}
		}
	}
}

// Estimates that are 2^20 just, one step below, and one step above: by the
// operator's bits.
func TestBitsOfOperatorsAtTheLimit(t *testing.T) {
	for _, c := range []struct{ r, d, n int }{
		{0, 0, 0}, {0, 0, 1}, {0, 0, 3}, {0, 1, 0}, {0, 9, 0}, {0, 256, 0}, {0, 4, 15}, {1, 0, 1}, {1, 3, 1}, {1, 2, 7}, {1, 0, 1023},
		{3, 0, 3}, {3, 7, 31}, {7, 2, 15}, {15, 0, 15}, {31, 1, 31}, {63, 0, 127}, {127, 0, 127}, {0, 255, 3}, {1, 30, 255},
	} {
		k := (1<<20)/((c.n+1)*(c.r+1)) - (c.d+1)*(bits.Len(uint(c.n))+1) - 8
		for more, want := range []api.Errno{api.OK, api.OK, api.ErrBig, api.ErrBig} {
			a := opOf(c.r, c.d, k-1+more)
			win := make([]api.Rat, c.n)
			if e := expect(t, a, win); e != want {
				t.Errorf("P11.1: order %d, degree %d, %d values, %d bits: %d, not %d", c.r, c.d, c.n, k-1+more, e, want)
			}
			if e := expect(t, padded(a), raised(win)); e != want {
				t.Errorf("P11.1: order %d, degree %d, %d values, %d bits, padded: %d, not %d", c.r, c.d, c.n, k-1+more, e, want)
			}
		}
	}
}

// The same by the window's bits, in lowest terms, of one of its values.
func TestBitsOfWindowsAtTheLimit(t *testing.T) {
	for _, n := range []int{1, 3, 7, 15, 63, 255, 1023, 2047} {
		w := (1<<20)/(n+1) - 1
		for more, want := range []api.Errno{api.OK, api.OK, api.ErrBig, api.ErrBig} {
			bits := w - 1 + more
			for i, v := range []api.Rat{
				{Num: bitsOf(bits - 1), Den: limbs.Of(1)}, {Num: limbs.Of(-1), Den: bitsOf(bits - 1)},
				{Num: bitsOf(bits / 2), Den: limbs.Sub(bitsOf(bits-bits/2+1), limbs.Of(1))},
			} {
				a := append(make(api.Op, n), p(1))
				if n > 100 {
					a = api.Op{p(-1), p(1)}
				}
				win := repeated(v, n)
				if e := expect(t, a, win); e != want {
					t.Errorf("P11.1, %d: %d values of %d bits: %d, not %d", i, n, bits, e, want)
				}
				if e := expect(t, a, raised(win)); e != want {
					t.Errorf("P11.1, %d: %d values of %d bits, raised: %d, not %d", i, n, bits, e, want)
				}
			}
		}
	}
	// One value is enough, wherever it stands.
	for k := range 7 {
		win := make([]api.Rat, 7)
		win[k] = api.Rat{Num: bitsOf(1<<17 - 1), Den: limbs.Of(3)}
		if e := expect(t, append(make(api.Op, 7), p(1)), win); e != api.ErrBig {
			t.Errorf("P11.1: one long value, the %d-th: %d", k, e)
		}
	}
}

// The window's length stands in the estimate, not what it need be.
func TestLengthsAtTheLimit(t *testing.T) {
	for _, a := range []api.Op{opOf(0, 0, 1000), opOf(1, 2, 300), opOf(3, 0, 77), opOf(2, 40, 1), opOf(9, 1, 20)} {
		m, told := modelOf(a, nil), make([]int, 11)
		for n := range 4096 {
			if size := m.estimateOf(n, 1); size > 1<<20-9000 && size < 1<<20+9000 {
				told[expect(t, a, make([]api.Rat, n))]++
			}
		}
		if told[api.OK] == 0 || told[api.ErrBig] == 0 {
			t.Errorf("no length at the limit: %v", told)
		}
	}
}

func TestRandomSizesAtTheLimit(t *testing.T) {
	d := rand.New(rand.NewSource(5))
	told := make([]int, 11)
	for range 600 {
		r, n := d.Intn(6), d.Intn(200)
		degree := d.Intn(12)
		k := (1<<20)/((n+1)*(r+1)) - (degree+1)*(bits.Len(uint(n))+1) - 8 + d.Intn(5) - 2
		if k < 1 {
			continue
		}
		told[expect(t, opOf(r, degree, k), make([]api.Rat, n))]++
	}
	if told[api.OK] < 100 || told[api.ErrBig] < 100 {
		t.Errorf("too few of some kind: %v", told)
	}
}
