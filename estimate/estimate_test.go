package estimate

import (
	"math"
	"math/big"
	"testing"

	"ashlar/api"
)

// stopped gives a number as an int, Top if it is greater.
func stopped(x *big.Int) int {
	if x.Cmp(big.NewInt(Top)) > 0 {
		return Top
	}
	return int(x.Int64())
}

func bigSum(ns ...int) int {
	x := new(big.Int)
	for _, n := range ns {
		x.Add(x, big.NewInt(int64(n)))
	}
	return stopped(x)
}

func bigProduct(ns ...int) int {
	x := big.NewInt(1)
	for _, n := range ns {
		x.Mul(x, big.NewInt(int64(n)))
	}
	return stopped(x)
}

func lists() [][]int {
	out := [][]int{nil, {}}
	edge := []int{0, 1, 2, 3, 1<<31 - 1, 1 << 31, 3037000500, 1<<32 + 1, Top/3 + 1, Top - 1, Top, Top + 1, math.MaxInt}
	for _, a := range edge {
		out = append(out, []int{a})
		for _, b := range edge {
			out = append(out, []int{a, b})
			for _, c := range edge {
				out = append(out, []int{a, b, c})
			}
		}
	}
	return out
}

func TestSumsAndProducts(t *testing.T) {
	for _, ns := range lists() {
		if got := Sum(ns...); got != bigSum(ns...) {
			t.Errorf("P9.2: the sum of %v: %d", ns, got)
		}
		if got := Product(ns...); got != bigProduct(ns...) {
			t.Errorf("P9.2: the product of %v: %d", ns, got)
		}
	}
}

func TestTimes(t *testing.T) {
	for _, ns := range lists() {
		raised := make([]int, len(ns))
		lowered := make([]int, len(ns))
		for i, n := range ns {
			raised[i] = max(n, 1)
			lowered[i] = n
			if n == 0 {
				lowered[i] = math.MinInt + i
			}
		}
		want := bigProduct(raised...)
		if got := Times(ns...); got != want {
			t.Errorf("P9.1: Times%v: %d, not %d", ns, got, want)
		}
		if got := Times(lowered...); got != want {
			t.Errorf("P9.1: Times%v: %d, not %d", lowered, got, want)
		}
	}
	if Times() != 1 || Times(1<<40, 1<<40) != 1<<62 || Times(0, 5) != 5 || Times(-3, 5, -1) != 5 {
		t.Error("P9.1: Times of the document")
	}
}

func TestSize(t *testing.T) {
	for _, c := range []struct {
		order, degree, bits int
		want                api.Size
	}{{-1, -1, 0, api.Size{}}, {0, 0, 1, api.Size{Bits: 1}}, {3, 2, 5, api.Size{Order: 3, Degree: 2, Bits: 5}}} {
		if got := Size(c.order, c.degree, c.bits); got != c.want {
			t.Errorf("P9.1: the size of %v: %v", c, got)
		}
	}
}

func sizes() []api.Size {
	return []api.Size{
		{}, {Bits: 1}, {Order: 1, Bits: 1}, {Degree: 1, Bits: 1}, {Order: 3, Degree: 5, Bits: 70}, {Order: 7, Degree: 2, Bits: 33},
		{Order: 1 << 20, Degree: 3, Bits: 1}, {Order: 2, Degree: 1 << 21, Bits: 9}, {Order: 1, Degree: 1, Bits: 1 << 35},
		{Order: 1<<31 - 1, Degree: 1<<31 - 1, Bits: 1 << 36}, {Order: 1<<16 - 1, Degree: 1<<15 - 1, Bits: 1<<15 - 4},
	}
}

func TestMul(t *testing.T) {
	for _, a := range sizes() {
		for _, b := range sizes() {
			for _, m := range []int{0, 1, 2, 65, 1 << 20, 1 << 36} {
				r, s, e := big.NewInt(int64(a.Order)), big.NewInt(int64(b.Order)), big.NewInt(int64(b.Degree))
				one := big.NewInt(1)
				rows, columns := new(big.Int).Add(r, one), new(big.Int).Add(e, one)
				last := big.NewInt(int64(a.Bits + b.Bits + 8))
				last.Add(last, new(big.Int).Mul(rows, columns))
				grow := new(big.Int).Mul(r, columns)
				last.Add(last, grow.Mul(grow, big.NewInt(int64(m))))
				want := last.Mul(last, rows)
				want.Mul(want, s.Add(s, one)).Mul(want, big.NewInt(int64(a.Degree+b.Degree+2)))
				if got := Mul(a, b, m); got != stopped(want) {
					t.Errorf("P9.2: Mul of %v, %v, %d: %d, not %v", a, b, m, got, want)
				}
			}
		}
	}
	if got := Mul(api.Size{Order: 1, Bits: 1}, api.Size{Degree: 1, Bits: 1}, 0); got != 84 {
		t.Errorf("P9.2: Mul of the document: %d", got)
	}
}

func TestApply(t *testing.T) {
	for _, a := range sizes() {
		for _, f := range [][2]int{{-1, 0}, {0, 1}, {0, 70}, {3, 2}, {1 << 20, 1}, {9, 1 << 30}, {1<<31 - 1, 1 << 36}} {
			for _, m := range []int{0, 1, 65, 1 << 20, 1 << 36} {
				rows := big.NewInt(int64(a.Order + 1))
				last := new(big.Int).Mul(rows, big.NewInt(int64(f[0]+2)))
				last.Mul(last, big.NewInt(int64(m+8))).Add(last, big.NewInt(int64(a.Bits+f[1])))
				want := last.Mul(last, rows)
				want.Mul(want, big.NewInt(int64(a.Degree+f[0]+3)))
				if got := Apply(a, f[0], f[1], m); got != stopped(want) {
					t.Errorf("P9.2: Apply of %v, %v, %d: %d, not %v", a, f, m, got, want)
				}
			}
		}
	}
	// Two rows, x^2 - 1 on x: 2, 2 + 1 + 3, 1 + 1 + 2 (1 + 2) 8.
	if got := Apply(api.Size{Order: 1, Degree: 2, Bits: 1}, 1, 1, 0); got != 2*6*50 {
		t.Errorf("P9.2: Apply: %d", got)
	}
}
