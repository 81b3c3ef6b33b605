package seq_test

import (
	"math/big"
	"slices"
	"testing"

	"ashlar/api"
	"ashlar/limbs"
	"ashlar/roots"
	"ashlar/seq"
	"ashlar/upoly"
)

// leads are leading entries with the natural numbers at which they are 0.
func leads() []struct {
	p  api.Poly
	at []int
} {
	return []struct {
		p  api.Poly
		at []int
	}{
		{p(1), nil}, {p(-6), nil}, {at(0), []int{0}}, {at(1), []int{1}}, {at(0, 0, 0), []int{0}}, {at(5), []int{5}}, {at(0, 1, 2, 3), []int{0, 1, 2, 3}},
		{at(7, 2, 7, 2, 2), []int{2, 7}}, {at(9, -9), []int{9}}, {at(-1), nil}, {at(-1, -1, -40), nil}, {p(-1, 2), nil}, {p(-2, 0, 1), nil}, {p(1, 0, 1), nil},
		{p(-4, 0, 1), []int{2}}, {upoly.Mul(p(-3, 2), at(3)), []int{3}}, {upoly.Scale(at(1, 4), limbs.Of(-10)), []int{1, 4}},
		{upoly.Mul(p(-2, 0, 1), at(11, 0)), []int{0, 11}}, {p(0, -6, 11, -6, 1), []int{0, 1, 2, 3}}, {upoly.Mul(p(0, 0, 5), at(6)), []int{0, 6}},
		{at(0, 10, 5, 15, 20), []int{0, 5, 10, 15, 20}}, {at(4, -3, 2, -1), []int{2, 4}}, {p(-9, 3), []int{3}}, {p(9, -3), []int{3}}, {p(-9, 2), nil},
	}
}

// Each lead with each order, and windows just so long that they determine, one
// value shorter, and longer. All values are 0, so no relation is broken.
func TestSingularNumbers(t *testing.T) {
	for _, c := range leads() {
		for r := range 5 {
			a := append(make(api.Op, r), c.p)
			if r > 0 {
				a[0] = p(3, 1)
			}
			needs, known := r, []*big.Int(nil)
			for _, n := range c.at {
				needs, known = r+n+1, append(known, big.NewInt(int64(n)))
			}
			for n := range needs + 9 {
				want := api.OK
				if n < needs {
					want = api.ErrUnder
				}
				win := make([]api.Rat, n)
				if e := expect(t, a, win, known...); e != want {
					t.Errorf("P11.1: the order %d, singular are %v, with %d values: %d, not %d", r, c.at, n, e, want)
				}
			}
			if n, e := seq.Needs(a); e != api.OK || !isInt(n, big.NewInt(int64(needs))) {
				t.Errorf("P11.3: Needs, the order %d, singular are %v: %v, %d, not %d", r, c.at, bigInt(n), e, needs)
			}
		}
	}
}

// What stands at a free index is the window's to say.
func TestFreeValues(t *testing.T) {
	a := api.Op{p(-1, -1), p(1, 2), at(1, 4)}
	base := []int64{2, 5, 0, 0, 0, 0, 0}
	for _, third := range []int64{-1, 0, 7} {
		for _, sixth := range []int64{-2, 0, 9} {
			m := modelOf(a, values(base[:2]...))
			for k := 2; k < 12; k++ {
				v := big.NewRat(third, 3)
				if k == 6 {
					v = big.NewRat(sixth, 5)
				}
				if !m.isSingular(k - 2) {
					v = m.forced(k - 2)
				}
				m.win = append(m.win, v)
			}
			var win []api.Rat
			for _, v := range m.win {
				win = append(win, fromBigRat(v))
			}
			if e := expect(t, a, win); e != api.OK {
				t.Errorf("P11.1: free values %d, %d: %d", third, sixth, e)
			}
		}
	}
}

// greatRoots are numbers that no int holds, and such as are small modulo 2^32 or
// 2^64, or are not behind a window when r is added to an int.
func greatRoots() []*big.Int {
	var out []*big.Int
	for _, s := range []string{
		"4294967295", "4294967296", "4294967299", "9223372036854775805", "9223372036854775807", "9223372036854775808", "18446744073709551615",
		"18446744073709551616", "18446744073709551619", "340282366920938463463374607431768211458", "10000000000000000000000000000000000000000",
	} {
		x, _ := new(big.Int).SetString(s, 10)
		out = append(out, x)
	}
	return append(out, new(big.Int).Add(new(big.Int).Lsh(big.NewInt(1), 3000), big.NewInt(2)))
}

func TestGreatSingularNumbers(t *testing.T) {
	for _, x := range greatRoots() {
		for r := range 4 {
			a := append(make(api.Op, r), roots.With(p(2), fromBig(x)))
			if r > 0 {
				a[0] = p(1)
			}
			for _, n := range []int{0, r, r + 1, 20} {
				if e := expect(t, a, make([]api.Rat, n), x); e != api.ErrUnder {
					t.Errorf("P11.1: %v is singular, with %d values: %d", x, n, e)
				}
			}
			want := new(big.Int).Add(x, big.NewInt(int64(r+1)))
			if n, e := seq.Needs(a); e != api.OK || !isInt(n, want) {
				t.Errorf("P11.3: Needs, %v is singular, order %d: %v, %d", x, r, bigInt(n), e)
			}
			// Beside small ones, and repeated.
			a[r] = roots.With(a[r], limbs.Of(3), fromBig(x), limbs.Of(-8))
			if e := expect(t, a, make([]api.Rat, 20), big.NewInt(3), x); e != api.ErrUnder {
				t.Errorf("P11.1: 3 and %v are singular: %d", x, e)
			}
			if n, e := seq.Needs(a); e != api.OK || !isInt(n, want) {
				t.Errorf("P11.3: Needs, 3 and %v are singular, order %d: %v, %d", x, r, bigInt(n), e)
			}
			// As far below 0 it is none.
			below := append(slices.Clone(a[:r]), roots.With(p(2), limbs.Neg(fromBig(x))))
			if e := expect(t, below, make([]api.Rat, r)); e != api.OK {
				t.Errorf("P11.1: the root %v below 0: %d", x, e)
			}
			if n, e := seq.Needs(below); e != api.OK || !isInt(n, big.NewInt(int64(r))) {
				t.Errorf("P11.3: Needs, the root %v below 0: %v, %d", x, bigInt(n), e)
			}
		}
	}
}

func TestNeedsExamples(t *testing.T) {
	for _, c := range []struct {
		a    api.Op
		want int64
	}{{api.Op{p(1), nil, p(-5, 1)}, 8}, {api.Op{p(3)}, 0}, {api.Op{at(0)}, 1}, {api.Op{nil, p(1)}, 1}, {api.Op{p(-1), p(-1), p(1)}, 2}} {
		for _, a := range []api.Op{c.a, padded(c.a)} {
			if n, e := seq.Needs(a); e != api.OK || !isInt(n, big.NewInt(c.want)) {
				t.Errorf("P11.3: Needs(%s): %v, %d, not %d", modelOf(a, nil), n, e, c.want)
			}
		}
	}
}

// Needs refuses nothing but zero: no order, no degree, no bits.
func TestNeedsOfGreatOperators(t *testing.T) {
	heavy := api.Poly{bitsOf(2 << 20), limbs.Of(1)}
	high := roots.With(append(make(api.Poly, 900), limbs.Of(1)), limbs.Of(77))
	for i, c := range []struct {
		a    api.Op
		want int64
	}{
		{far(257), 257}, {far(100000), 100000}, {append(far(5000), at(12)), 5014}, {api.Op{heavy}, 0}, {api.Op{heavy, at(1)}, 3}, {api.Op{high}, 78}, {api.Op{high, p(5)}, 1},
		{append(make(api.Op, 300), high), 378},
	} {
		if n, e := seq.Needs(c.a); e != api.OK || !isInt(n, big.NewInt(c.want)) {
			t.Errorf("P11.3: Needs, %d: %v, %d, not %d", i, bigInt(n), e, c.want)
		}
	}
}
