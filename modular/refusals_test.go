package modular_test

import (
	"math"
	"math/bits"
	"testing"

	"ashlar/api"
	"ashlar/limbs"
	"ashlar/modular"
	"ashlar/seq"
	"ashlar/upoly"
)

// Each of the errors stands ahead of those behind it, whatever they are.
func TestErrorsInTheirOrder(t *testing.T) {
	fifth := pair{api.Op{p(-1), p(10)}, []api.Rat{over(1, 5)}}.define(t)
	heavy := seq.Const(api.Rat{Num: limbs.Of(1), Den: limbs.Mul(bitsOf(1<<19), limbs.Of(5))})
	long := pair{api.Op{{bitsOf(43000)}, p(10)}, []api.Rat{over(1, 5)}}.define(t)
	for _, s := range []*seq.Seq{nil, fibonacci(t), fifth, heavy, long} {
		for _, p := range notPrimes() {
			for _, n := range []int{math.MinInt, -1, 0, 1, 100, 4096, 4097, math.MaxInt} {
				expectRefusal(t, s, n, p, api.ErrArg)
			}
		}
		for _, p := range fewPrimes() {
			for _, n := range []int{math.MinInt, -4097, -1, 4097, 4098, math.MaxInt} {
				expectRefusal(t, s, n, p, api.ErrIndex)
			}
		}
	}
	for _, p := range []int64{2, 5, 7} {
		expectRefusal(t, heavy, 1, p, api.ErrBig)
		expectRefusal(t, heavy, 4096, p, api.ErrBig)
		expectRefusal(t, long, 12, p, api.ErrBig)
		expectRefusal(t, long, 4096, p, api.ErrBig)
	}
	for _, n := range []int{0, 1, 4096} {
		expectRefusal(t, fifth, n, 5, api.ErrPrime)
	}
	expectRefusal(t, fifth, 0, 2, api.OK)
	expectRefusal(t, fifth, 1, 2, api.ErrPrime)
	expectRefusal(t, heavy, 0, 5, api.ErrPrime)
	expectRefusal(t, long, 0, 5, api.ErrPrime)
	expectRefusal(t, long, 0, 2, api.OK)
}

// A prime that divides a Den of the window, wherever that stands, whatever n is.
func TestPrimesInTheWindow(t *testing.T) {
	for length := 1; length < 8; length++ {
		for where := range length {
			// All values are 0, but the first and that which is free.
			a := api.Op{nil, p(1)}
			if where > 0 {
				a = api.Op{nil, at(int64(where - 1))}
			}
			win := make([]api.Rat, length)
			win[where] = over(3, 10)
			s := pair{a, win}.define(t)
			for n := range 12 {
				expectRefusal(t, s, n, 2, api.ErrPrime)
				expectRefusal(t, s, n, 5, api.ErrPrime)
				if n < length {
					expectRefusal(t, s, n, 3, api.OK)
					expectRefusal(t, s, n, 7, api.OK)
				}
			}
		}
	}
}

// Dens are looked at in normal form.
func TestWindowsInOtherForms(t *testing.T) {
	for _, c := range []struct {
		v api.Rat
		p int64
		e api.Errno
	}{
		{raw(5, 5), 5, api.OK}, {raw(10, -5), 5, api.OK}, {raw(5, 25), 5, api.ErrPrime}, {raw(-25, 5), 5, api.OK}, {raw(0, 5), 5, api.OK}, {raw(5, 0), 5, api.OK},
		{raw(1, -5), 5, api.ErrPrime}, {raw(6, 4), 2, api.ErrPrime}, {raw(4, 6), 2, api.OK}, {raw(4, 6), 3, api.ErrPrime}, {api.Rat{}, 2, api.OK},
		{api.Rat{Num: wide(limbs.Of(7)), Den: wide(limbs.Of(-7))}, 7, api.OK}, {api.Rat{Num: wide(limbs.Of(1)), Den: wide(limbs.Of(-7))}, 7, api.ErrPrime},
	} {
		for _, s := range []*seq.Seq{pair{api.Op{p(-1), p(1)}, []api.Rat{c.v}}.define(t), seq.Const(c.v), pair{api.Op{p(-1), p(-1), p(1)}, []api.Rat{over(1, 11), c.v}}.define(t)} {
			for _, n := range []int{0, 1, 2, 9} {
				expectRefusal(t, s, n, c.p, c.e)
			}
		}
	}
}

// The relations that are used: from the first behind the window to that which
// tells the value at n, neither one more nor one less. All are fulfilled by ones,
// so that no value has a Den.
func TestRelationsThatAreUsed(t *testing.T) {
	for _, lead := range []api.Poly{p(1, 1), p(7, 1), p(-3, 2), p(1, 0, 1), p(4, 3), p(-2, -5), p(12), p(-1)} {
		for order := 1; order < 5; order++ {
			a := make(api.Op, order+1)
			a[0], a[order] = upoly.Scale(lead, limbs.Of(-1)), lead
			for length := order; length < 10; length++ {
				s := pair{a, values(1, 1, 1, 1, 1, 1, 1, 1, 1, 1)[:length]}.define(t)
				for n := range 16 {
					for _, prime := range []int64{2, 3, 5, 7, 11} {
						want := api.OK
						for k := length - order; k <= n-order; k++ {
							if divides(prime, toBig(lead).at(k)) {
								want = api.ErrPrime
							}
						}
						expectRefusal(t, s, n, prime, want)
						if want == api.OK {
							expectValue(t, s, n, prime, 1)
						}
					}
				}
			}
		}
	}
}

// At a singular number every prime divides the leading entry: that is no refusal.
func TestSingularNumbers(t *testing.T) {
	s := pair{api.Op{p(0, -1), at(2)}, values(1, 0, 0, 7)}.define(t)
	for n := range 8 { // The relations at 3 to 6 are used: 1, 2, 3, 4.
		expectRefusal(t, s, n, 5, api.OK)
		expectRefusal(t, s, n, 11, api.OK)
	}
	expectRefusal(t, s, 8, 5, api.ErrPrime) // That at 7 too: 5.
	expectRefusal(t, s, 4, 2, api.OK)
	expectRefusal(t, s, 5, 2, api.ErrPrime)
	expectRefusal(t, s, 13, 11, api.OK)
	expectRefusal(t, s, 14, 11, api.ErrPrime)
	// Relations within the window may have a bad leading entry, too: -2 at 0.
	expectRefusal(t, s, 0, 2, api.OK)
	expectRefusal(t, s, 3, 2, api.OK)
	zero := pair{api.Op{at(3, 1)}, values(0, 4, 0, 5)}.define(t)
	expectRefusal(t, zero, 3, 2, api.OK)
	expectRefusal(t, zero, 4, 5, api.OK)
	expectRefusal(t, zero, 4, 3, api.ErrPrime) // (4 - 3) (4 - 1).
	expectRefusal(t, zero, 6, 7, api.OK)
	expectRefusal(t, zero, 7, 2, api.ErrPrime)
}

// Of the order 0 the relation at n is that of the value at n.
func TestRefusalsOfNoOrder(t *testing.T) {
	s := pair{api.Op{p(2, 1)}, nil}.define(t)
	for n := range 12 {
		for _, p := range []int64{2, 3, 5, 7, 11, 13} {
			want := api.OK
			if int64(n) >= p-2 {
				want = api.ErrPrime
			}
			expectRefusal(t, s, n, p, want)
		}
	}
	four := pair{api.Op{p(-4)}, values(0, 0)}.define(t)
	for n, want := range []api.Errno{api.OK, api.OK, api.ErrPrime, api.ErrPrime} {
		expectRefusal(t, four, n, 2, want)
		expectRefusal(t, four, n, 3, api.OK)
	}
}

// A prime that is bad far out alone.
func TestAPrimeFarOut(t *testing.T) {
	s := inverses(t)
	for _, p := range []int64{2, 3, 101, 1009, 4001, 4093} {
		expectRefusal(t, s, int(p)-1, p, api.OK)
		expectRefusal(t, s, int(p), p, api.ErrPrime)
		expectRefusal(t, s, 4096, p, api.ErrPrime)
	}
	expectRefusal(t, s, 4096, 4099, api.OK)
	last := pair{api.Op{p(-1), p(4, 1)}, values(1)}.define(t) // 4,099 at 4,095.
	expectRefusal(t, last, 4095, 4099, api.OK)
	expectRefusal(t, last, 4096, 4099, api.ErrPrime)
	// Entries of many words that a great prime divides once.
	great := int64(1<<31 - 1)
	lead := api.Poly{limbs.Sub(limbs.Mul(limbs.Of(great), bitsOf(90)), limbs.Of(17)), limbs.Of(1)}
	wide := pair{api.Op{p(1), lead}, values(1)}.define(t)
	expectRefusal(t, wide, 17, great, api.OK)
	expectRefusal(t, wide, 18, great, api.ErrPrime)
	expectRefusal(t, wide, 300, great, api.ErrPrime)
}

// expectEnd looks at Term just where it begins to be ErrBig: what it tells there
// is what unroll.Term tells, brought down.
func expectEnd(t *testing.T, s *seq.Seq, p int64) {
	t.Helper()
	m := modelOf(s)
	end := 0
	for end <= 4096 && !m.isBig(end) {
		end++
	}
	for n := max(end-2, 0); n < end+2; n++ {
		r, e := modular.Term(s, n, p)
		if want := m.refused(n, p); e != want || e != api.OK && r != 0 {
			t.Errorf("P14.2: Term(%s, %d, %d): %d, %d, not the error %d", m, n, p, r, e, want)
		}
		if e == api.OK {
			expectUnrolled(t, s, n, p, r)
		}
	}
}

// Estimates that are 2^20 just, and a bit more, by the operator's bits.
func TestTermsAtTheLimit(t *testing.T) {
	for _, c := range []struct{ r, d, n int }{
		{0, 0, 1}, {0, 9, 7}, {1, 0, 3}, {1, 3, 3}, {1, 2, 7}, {1, 0, 511}, {3, 0, 7}, {3, 7, 31}, {7, 2, 15}, {15, 0, 31}, {63, 0, 127}, {1, 30, 255}, {0, 1, 4095}, {3, 0, 4095}, {1, 2, 2047},
	} {
		k := (1<<20)/((c.n+1)*(c.r+1)) - (c.d+1)*(bits.Len(uint(c.n))+1) - 8
		for more, want := range []api.Errno{api.OK, api.OK, api.ErrBig} {
			win := make([]api.Rat, c.r)
			if c.r > 0 {
				win[c.r-1] = over(1, 3)
			}
			s := pair{opOf(c.r, c.d, k-1+more), win}.define(t)
			if r, e := modular.Term(s, c.n, 1<<31-1); e != want {
				t.Errorf("P14.2: order %d, degree %d, %d bits, at %d: %d, %d, not %d", c.r, c.d, k-1+more, c.n, r, e, want)
			}
			expectEnd(t, s, 1<<31-1)
		}
	}
}

// The same by the window's bits; what is within the window is refused, too.
func TestWindowsAtTheLimit(t *testing.T) {
	for _, n := range []int{0, 1, 3, 15, 255} {
		w := (1<<20)/(n+1) - 1
		for more, want := range []api.Errno{api.OK, api.OK, api.ErrBig} {
			for _, v := range []api.Rat{{Num: bitsOf(w - 2 + more), Den: limbs.Of(1)}, {Num: limbs.Of(-1), Den: bitsOf(w - 2 + more)}} {
				expectRefusal(t, seq.Const(v), n, 3, want)
				expectEnd(t, seq.Const(v), 1000003)
			}
			even := seq.Const(api.Rat{Num: limbs.Of(-1), Den: bitsOf(w - 2 + more)})
			if want == api.OK {
				want = api.ErrPrime
			}
			expectRefusal(t, even, n, 2, want)
		}
	}
	for _, s := range []*seq.Seq{seq.Poly(power(60)), seq.Poly(power(400)), seq.Poly(power(1200)), seq.Const(api.Rat{Num: bitsOf(1 << 20), Den: limbs.Of(1)})} {
		expectEnd(t, s, 1000003)
	}
}
