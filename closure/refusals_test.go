package closure_test

import (
	"math"
	"testing"

	"ashlar/api"
	"ashlar/closure"
	"ashlar/gauge"
	"ashlar/held"
	"ashlar/limbs"
	"ashlar/seq"
)

func TestParts(t *testing.T) {
	huge := pair{opOf(0, 0, 1<<19), nil}.define(t)
	long := make(api.Poly, 500)
	long[499] = limbs.Of(1)
	for _, s := range []*seq.Seq{nil, fibonacci(t), huge, seq.Poly(long)} {
		for _, k := range []int{math.MinInt, -16, -1, 0, 1, 2, 15, 16, 17, 18, math.MaxInt} {
			for _, j := range []int{math.MinInt, -1, 0, 1, k - 1, k, k + 1, 15, 16, math.MaxInt} {
				want := k < 1 || k > 16 || j < 0 || j >= k
				part, e := closure.Part(s, k, j)
				spread, f := closure.Spread(s, k, j)
				if (e == api.ErrArg) != want || (f == api.ErrArg) != want {
					t.Errorf("P15.3: of %s, k %d, j %d: %d, %d", modelOf(s), k, j, e, f)
				}
				if (part == nil) != (e != api.OK) || (spread == nil) != (f != api.OK) {
					t.Errorf("P15.3: of %s, k %d, j %d: something beside an error, or nothing: %d, %d", modelOf(s), k, j, e, f)
				}
			}
		}
	}
	// Great estimates come behind what is no part, and ahead of all else.
	if _, e := closure.Part(seq.Poly(long), 2, 1); e != api.ErrBig {
		t.Errorf("P15.3: Part of what is too great: %d", e)
	}
}

// zerosOf is a sequence of zeros of this order, degree and bits: also such as Define
// refuses, but no call here does.
func zerosOf(order, degree, bits int) *seq.Seq {
	return held.New(opOf(order, degree, bits), zeroValues(order))
}

func zeroValues(n int) []api.Rat {
	out := make([]api.Rat, n)
	for i := range out {
		out[i] = over(0, 1)
	}
	return out
}

// greatest gives the greatest bits with which an estimate is not above MaxBits.
func greatest(cost func(bits int) int) int {
	low, high := 0, 1<<20
	for low < high {
		if middle := (low + high + 1) / 2; cost(middle) <= api.MaxBits {
			low = middle
		} else {
			high = middle - 1
		}
	}
	return low
}

// Estimates that are 2^20, or as near as they come, are told, and with a bit more
// they are not: by the bits of either operator.
func TestBitsOfOperatorsAtTheLimit(t *testing.T) {
	for _, c := range []struct{ r, d, s, e int }{
		{0, 0, 0, 0}, {0, 3, 0, 4}, {0, 7, 0, 0}, {1, 0, 0, 0}, {0, 0, 1, 0}, {0, 2, 1, 5}, {1, 0, 1, 0}, {1, 1, 1, 0}, {1, 2, 1, 9}, {3, 0, 0, 0}, {0, 1, 3, 0},
		{2, 0, 1, 0}, {2, 1, 1, 1}, {1, 0, 3, 0}, {3, 0, 3, 0}, {2, 1, 2, 0}, {3, 1, 1, 0}, {7, 0, 1, 0}, {15, 0, 0, 0}, {1, 200, 1, 100}, {0, 256, 0, 256},
	} {
		for _, w := range ofTwo() {
			n := (c.r + 1) * (c.s + 1)
			most := greatest(func(bits int) int {
				return product(n, n, n, n*(c.d+c.e)+1, bits+8, map[bool]int{true: 4, false: 1}[w.kind == 8])
			})
			for more := -1; most > 2 && more < 3; more++ {
				for _, bits := range []int{1, most / 2, most + more - 1} {
					a, b := zerosOf(c.r, c.d, bits), zerosOf(c.s, c.e, most+more-bits)
					w.expect(t, a, b, 5)
					if e := w.expect(t, a, b, 3); (e == api.ErrBig) != (more > 0) {
						t.Errorf("P15.3: %s of (%s) and (%s), %d more: %d", w.name, modelOf(a), modelOf(b), more, e)
					}
				}
			}
		}
	}
}

func TestBitsOfOneOperatorAtTheLimit(t *testing.T) {
	for _, c := range []struct{ r, d int }{{0, 0}, {0, 3}, {0, 256}, {1, 0}, {1, 1}, {1, 6}, {2, 0}, {2, 2}, {3, 0}, {3, 1}, {5, 0}, {7, 0}, {15, 0}} {
		for _, w := range append(ofOne(), parting(16, 15), spreading(16, 0), parting(7, 3)) {
			n := 2 * (c.r + 1)
			most := greatest(func(bits int) int { return product(n, n, n, n*c.d+1, bits+9, w.k) })
			for more := -1; most > 1 && more < 3; more++ {
				a := zerosOf(c.r, c.d, most+more)
				if e := w.expect(t, a, nil, 3); (e == api.ErrBig) != (more > 0) {
					t.Errorf("P15.3: %s of (%s), %d more: %d", w.name, modelOf(a), more, e)
				}
			}
		}
	}
}

// The same by windows: their lengths, and the greatest bits in each.
func TestWindowsAtTheLimit(t *testing.T) {
	// As long as asked for, with one value of so many bits.
	wide := func(length, bits, at int) *seq.Seq {
		win := zeroValues(length)
		win[at] = api.Rat{Num: bitsOf(bits - 1), Den: limbs.Of(1)}
		return held.New(append(make(api.Op, length), p(1)), win)
	}
	for _, c := range []struct{ la, lb int }{{1, 0}, {0, 1}, {1, 1}, {2, 1}, {1, 2}, {3, 0}, {3, 1}, {7, 0}} {
		most := greatest(func(bits int) int { return product(c.la+c.lb+1, bits+1) })
		for more := -1; more < 3; more++ {
			for _, bits := range []int{2, most / 2, most + more - 2} {
				a, b := wide(max(c.la, 1), bits, c.la/2), wide(max(c.lb, 1), most+more-bits, 0)
				if c.lb == 0 {
					a, b = wide(c.la, most+more-1, c.la-1), nil // A window without values has no bits.
				}
				if c.la == 0 {
					a, b = nil, wide(c.lb, most+more-1, 0)
				}
				for _, w := range ofTwo() {
					w.expect(t, a, b, 3)
				}
			}
		}
	}
	for _, length := range []int{1, 2, 3, 7} {
		for _, w := range append(ofOne(), parting(16, 15), spreading(16, 0)) {
			most := greatest(func(bits int) int { return product(product(length+1, bits+1), w.k) })
			for more := -1; more < 3; more++ {
				a := wide(length, most+more, length-1)
				if e := w.expect(t, a, nil, 3); (e == api.ErrBig) != (more > 0) {
					t.Errorf("P15.3: %s of a window of %d values and %d bits: %d", w.name, length, most+more, e)
				}
			}
		}
	}
}

// Cost is what gauge says, of every kind.
func TestCost(t *testing.T) {
	huge := pair{opOf(0, 0, 1<<19), nil}.define(t)
	long := make(api.Poly, 120)
	long[119] = bitsOf(40)
	difference := api.Op{p(-1), p(1)}
	all := []*seq.Seq{nil, {}, huge, zerosOf(1500, 0, 1), seq.Poly(long), seq.Const(over(1<<40, 3))}
	for _, c := range append(plainPairs()[:30:30], pairsOfNoOrder()...) {
		all = append(all, c.longer(len(all)%4).define(t))
	}
	for i, a := range all {
		for _, b := range all[:1+i%9] {
			two := gauge.Close(a.Op(), b.Op(), a.Window(), b.Window())
			one := gauge.Close(a.Op(), difference, a.Window(), nil)
			for _, k := range []int{math.MinInt, -1, 0, 1, 2, 16, 17, 1000, 1 << 40, math.MaxInt} {
				parts := 0
				if k >= 1 {
					parts = gauge.Times(one, k)
				}
				for kind, want := range []int{0, two, one, two, one, one, parts, parts, gauge.Times(two, 4), 0, 0} {
					if got := closure.Cost(kind, a, b, k); got != want || costOf(kind, a, b, k) != want {
						t.Errorf("P15.4: Cost(%d, (%s), (%s), %d): %d, not %d", kind, modelOf(a), modelOf(b), k, got, want)
					}
				}
				for _, kind := range []int{math.MinInt, -8, -1, 9, 100, math.MaxInt} {
					if got := closure.Cost(kind, a, b, k); got != 0 {
						t.Errorf("P15.4: Cost(%d, .., %d): %d", kind, k, got)
					}
				}
			}
		}
	}
}

// Free indices just below MaxIndex are told, and no others: of what no operator of
// the order that is allowed can do without.
func TestFreeIndices(t *testing.T) {
	fib := fibonacci(t)
	hole := func(n int) *seq.Seq { // (x - n) S - x with 0, .., 0, 1: all behind it is not 0.
		return pair{api.Op{p(0, -1), at(int64(n))}, append(make([]api.Rat, n+1), over(1, 1))}.define(t)
	}
	ratio := func(q api.Poly) *seq.Seq { return pair{api.Op{q, p(1)}, values(1)}.define(t) }
	one := over(1, 1)
	for i, c := range []struct {
		w    row
		a, b *seq.Seq
		want api.Errno
		free int
	}{
		// The value at n + 2 of such a sum does not follow from two ahead of it.
		{ofTwo()[0], point(t, 4093, one), fib, api.OK, 4095}, {ofTwo()[0], fib, point(t, 4094, one), api.ErrIndex, 0}, {ofTwo()[0], fib, point(t, 4095, one), api.ErrIndex, 0},
		{ofTwo()[0], point(t, 4095, one), nil, api.OK, 4095}, {ofTwo()[0], point(t, 4094, one), seq.Const(one), api.OK, 4095}, {ofTwo()[0], point(t, 4095, one), seq.Const(one), api.ErrIndex, 0},
		{ofTwo()[0], point(t, 4095, one), closureScale(t, point(t, 4095, one), -1), api.OK, -1},
		{ofTwo()[1], point(t, 4095, one), fib, api.OK, 4095}, {ofTwo()[1], hole(4093), fib, api.OK, 4095}, {ofTwo()[1], fib, hole(4094), api.ErrIndex, 0},
		{ofTwo()[2], point(t, 2047, one), nil, api.OK, 4094}, {ofTwo()[2], nil, point(t, 2047, one), api.OK, 4095}, {ofTwo()[2], point(t, 2048, one), nil, api.ErrIndex, 0}, {ofTwo()[2], nil, point(t, 2048, one), api.ErrIndex, 0},
		{spreading(16, 15), point(t, 255, one), nil, api.OK, 4095}, {spreading(16, 0), point(t, 256, one), nil, api.ErrIndex, 0}, {spreading(1, 0), point(t, 4095, one), nil, api.OK, 4095},
		{spreading(2, 1), hole(2046), nil, api.OK, 4095}, {spreading(2, 0), hole(2047), nil, api.ErrIndex, 0}, {spreading(2, 0), hole(2046), nil, api.OK, 4094},
		{ofOne()[0], point(t, 4095, one), nil, api.OK, 4095}, {ofOne()[0], hole(4094), nil, api.OK, 4095},
		{ofOne()[2], point(t, 4095, one), nil, api.OK, 4095}, {ofOne()[2], hole(4094), nil, api.OK, 4095}, {ofOne()[3], point(t, 4095, one), nil, api.OK, 4094}, {ofOne()[3], hole(4094), nil, api.OK, 4094},
		{parting(2, 1), point(t, 4095, one), nil, api.OK, 2047}, {parting(16, 15), point(t, 4095, one), nil, api.OK, 255}, {parting(16, 14), point(t, 4095, one), nil, api.OK, -1},
		// Two ratios that are the same at one number alone: from there on the sum's
		// value hangs on both.
		{ofTwo()[0], ratio(p(-1)), ratio(p(4092, -1)), api.OK, 4095}, {ofTwo()[0], ratio(p(-1)), ratio(p(4093, -1)), api.ErrIndex, 0},
	} {
		s, e := c.w.ask(c.a, c.b)
		if e != c.want || (s == nil) != (e != api.OK) {
			t.Errorf("P15.3: %d: %s: %d, not %d", i, c.w.name, e, c.want)
			continue
		}
		if s != nil && c.free >= 0 && (!s.Free(c.free) || s.Len() != c.free+1) {
			t.Errorf("P15.2: %d: %s: not free is %d: %s", i, c.w.name, c.free, modelOf(s))
		}
		if s != nil && c.free < 0 && len(s.Singular()) != 0 {
			t.Errorf("P15.2: %d: %s: singular are %v", i, c.w.name, s.Singular())
		}
	}
}

// Of entries that are numbers no operator leaves an index free, however long a
// window is.
func TestNumbersLeaveNoIndexFree(t *testing.T) {
	for _, a := range []api.Op{{p(-1), p(-1), p(1)}, {p(3), p(-2)}, {p(1)}, {p(0), p(5), nil, p(-7)}, {p(1), p(1), p(1), p(1)}} {
		for _, length := range []int{len(a) - 1, 40, 1000} {
			c := pair{a, make([]api.Rat, len(a)-1)}
			for i := range c.win {
				c.win[i] = over(int64(i), 1)
			}
			if length > 40 {
				c.win = make([]api.Rat, len(a)-1) // All zeros: others would be too long.
			}
			c = c.longer(max(length-len(c.win), 0))
			for _, w := range append(append(ofTwo(), ofOne()...), parting(16, 1), spreading(16, 1)) {
				for _, b := range []*seq.Seq{fibonacci(t), c.define(t), nil} {
					s, e := w.ask(c.define(t), b)
					if e != api.OK && e != api.ErrBig || s != nil && len(s.Singular()) > 0 {
						t.Errorf("P15.3: %s of (%s) and (%s): %d", w.name, modelOf(c.define(t)), modelOf(b), e)
					}
				}
			}
		}
	}
}
