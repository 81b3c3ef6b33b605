package estimate

import (
	"math"
	"math/bits"
	"testing"

	"ashlar/api"
)

func TestSize(t *testing.T) {
	for _, c := range []struct {
		order, degree, bits int
		want                api.Size
	}{{-1, -1, 0, api.Size{}}, {0, 0, 1, api.Size{Bits: 1}}, {3, 2, 5, api.Size{Order: 3, Degree: 2, Bits: 5}}} {
		if got := Size(c.order, c.degree, c.bits); got != c.want {
			t.Errorf("P9.1: the size of %v: %v", c, got)
		}
	}
}

// sizes are such as operators have, and such as no memory could hold: each sum
// and each product within a factor stops for some of them.
func sizes() []api.Size {
	return []api.Size{
		{}, {Bits: 1}, {Order: 1, Bits: 1}, {Degree: 1, Bits: 1}, {Order: 3, Degree: 5, Bits: 70}, {Order: 7, Degree: 2, Bits: 33},
		{Order: 1 << 20, Degree: 3, Bits: 1}, {Order: 2, Degree: 1 << 21, Bits: 9}, {Order: 1, Degree: 1, Bits: 1 << 35},
		{Order: 1<<31 - 1, Degree: 1<<31 - 1, Bits: 1 << 36}, {Order: 1<<16 - 1, Degree: 1<<15 - 1, Bits: 1<<15 - 4},
		{Order: 1<<32 - 1}, {Degree: 1<<32 - 1}, {Order: Top - 1}, {Degree: Top - 2}, {Bits: Top - 8}, {Bits: Top - 9},
		{Order: math.MaxInt}, {Degree: math.MaxInt}, {Bits: math.MaxInt}, {Order: math.MaxInt, Degree: math.MaxInt, Bits: math.MaxInt},
	}
}

// qBits are those that a q may have, and greater ones.
func qBits() []int { return []int{0, 1, 2, 65, 1 << 20, 1 << 36, 1 << 60, Top - 2, math.MaxInt} }

func views() []Window {
	return []Window{
		{}, {1, 1}, {1, 70}, {9, 2}, {4096, 1 << 20}, {1 << 31, 1 << 30}, {1<<31 - 2, 1<<31 - 1}, {1 << 31, 1<<31 - 1},
		{Top - 1, 1}, {1, Top - 1}, {math.MaxInt, math.MaxInt},
	}
}

func TestPairs(t *testing.T) {
	for _, a := range sizes() {
		for _, b := range sizes() {
			for _, m := range qBits() {
				r, d, k, s, e, l := a.Order, a.Degree, a.Bits, b.Order, b.Degree, b.Bits
				n := plus(r, s, 2)
				mul := by(plus(r, 1), plus(s, 1), plus(d, e, 2), plus(k, l, by(plus(r, 1), plus(e, 1)), by(r, plus(e, 1), m), 8))
				divide := by(plus(r, 1), plus(s, 1), n, plus(d, e, 2), plus(k, l, by(plus(r, 1), plus(m, 2)), 8))
				common := by(n, n, n, plus(by(n, plus(d, e)), 2), plus(k, l, by(plus(r, s, 1), plus(m, 2)), 8))
				if got := Mul(a, b, m); got != stopped(mul) {
					t.Errorf("P9.2: Mul of %v, %v, %d: %d, not %v", a, b, m, got, mul)
				}
				if got := Divide(a, b, m); got != stopped(divide) {
					t.Errorf("P9.2: Divide of %v, %v, %d: %d, not %v", a, b, m, got, divide)
				}
				if got := Common(a, b, m); got != stopped(common) {
					t.Errorf("P9.2: Common of %v, %v, %d: %d, not %v", a, b, m, got, common)
				}
			}
		}
	}
	if got := Mul(api.Size{Order: 1, Bits: 1}, api.Size{Degree: 1, Bits: 1}, 0); got != 84 {
		t.Errorf("P9.2: Mul of the document: %d", got)
	}
}

func TestApply(t *testing.T) {
	for _, a := range sizes() {
		for _, f := range [][2]int{{-1, 0}, {0, 1}, {0, 70}, {3, 2}, {1 << 20, 1}, {9, 1 << 30}, {1<<31 - 1, 1 << 36}, {1 << 31, math.MaxInt}} {
			for _, m := range qBits() {
				r, d, k := a.Order, a.Degree, a.Bits
				want := by(plus(r, 1), plus(d, f[0], 3), plus(k, f[1], by(plus(r, 1), plus(f[0], 2), plus(m, 8))))
				if got := Apply(a, f[0], f[1], m); got != stopped(want) {
					t.Errorf("P9.2: Apply of %v, %v, %d: %d, not %v", a, f, m, got, want)
				}
			}
		}
	}
	// Two rows, x^2 - 1 on x: 2, 2 + 1 + 3, 1 + 1 + 2 (1 + 2) 8.
	if got := Apply(api.Size{Order: 1, Degree: 2, Bits: 1}, 1, 1, 0); got != 2*6*50 {
		t.Errorf("P9.2: Apply: %d", got)
	}
}

func TestTerm(t *testing.T) {
	for _, a := range sizes() {
		for _, w := range views() {
			for _, n := range []int{math.MinInt, -1, 0, 1, 2, 10, 4096, 1 << 31, 1<<40 - 1, Top - 2, Top - 1, Top, Top + 1, math.MaxInt} {
				r, d, k := a.Order, a.Degree, a.Bits
				from := max(n, 0)
				first := by(plus(from, 1), plus(r, 1), plus(k, by(plus(d, 1), bits.Len(uint(from))+1), 8))
				second := by(plus(from, 1), plus(w.Bits, 1))
				if got, want := Term(a, w, n), max(stopped(first), stopped(second)); got != want {
					t.Errorf("P9.2: Term of %v, %v, %d: %d, not %d", a, w, n, got, want)
				}
			}
		}
	}
}

func TestClosures(t *testing.T) {
	for _, a := range sizes() {
		for _, b := range sizes() {
			for _, v := range views() {
				for _, w := range views() {
					r, d, k, s, e, l := a.Order, a.Degree, a.Bits, b.Order, b.Degree, b.Bits
					least := stopped(by(plus(v.Length, w.Length, 1), plus(v.Bits, w.Bits, 1)))
					n, o := by(plus(r, 1), plus(s, 1)), by(plus(d, 1), plus(e, 1))
					both := by(n, n, n, plus(by(n, plus(d, e)), 1), plus(k, l, 8))
					cauchy := by(o, o, o, by(o, plus(r, s, d, e, 2)), plus(k, l, 8))
					if got := Close(a, b, v, w); got != max(stopped(both), least) {
						t.Errorf("P9.2: Close of %v, %v, %v, %v: %d, not %v or %d", a, b, v, w, got, both, least)
					}
					if got := Cauchy(a, b, v, w); got != max(stopped(cauchy), least) {
						t.Errorf("P9.2: Cauchy of %v, %v, %v, %v: %d, not %v or %d", a, b, v, w, got, cauchy, least)
					}
				}
			}
		}
	}
}

func TestTurn(t *testing.T) {
	for _, a := range sizes() {
		n := plus(a.Order, a.Degree, 2)
		if got, want := Turn(a), by(n, n, n, plus(a.Degree, 2), plus(a.Bits, 8)); got != stopped(want) {
			t.Errorf("P9.2: Turn of %v: %d, not %v", a, got, want)
		}
	}
}
