package estimate

import (
	"math"
	"math/big"
	"slices"
	"testing"
)

// stopped gives a number as an int, Top if it is greater.
func stopped(x *big.Int) int {
	if x.Cmp(big.NewInt(Top)) > 0 {
		return Top
	}
	return int(x.Int64())
}

// number gives the number of an int or of a *big.Int.
func number(x any) *big.Int {
	if n, ok := x.(int); ok {
		return big.NewInt(int64(n))
	}
	return x.(*big.Int)
}

// plus and by give sums and products that do not stop.
func plus(xs ...any) *big.Int {
	out := new(big.Int)
	for _, x := range xs {
		out.Add(out, number(x))
	}
	return out
}

func by(xs ...any) *big.Int {
	out := big.NewInt(1)
	for _, x := range xs {
		out.Mul(out, number(x))
	}
	return out
}

func anys(ns []int) []any {
	var out []any
	for _, n := range ns {
		out = append(out, n)
	}
	return out
}

func lists() [][]int {
	out := [][]int{nil, {}}
	edge := []int{0, 1, 2, 3, 1<<31 - 1, 1 << 31, 3037000500, 1<<32 + 1, Top/3 + 1, Top - 1, Top, Top + 1, math.MaxInt}
	for _, a := range edge {
		out = append(out, []int{a})
		for _, b := range edge {
			out = append(out, []int{a, b})
			for _, c := range edge {
				out = append(out, []int{a, b, c})
			}
		}
	}
	return out
}

func TestSumsAndProducts(t *testing.T) {
	for _, ns := range lists() {
		if got, want := Sum(ns...), stopped(plus(anys(ns)...)); got != want {
			t.Errorf("P9.2: the sum of %v: %d, not %d", ns, got, want)
		}
		if got, want := Product(ns...), stopped(by(anys(ns)...)); got != want {
			t.Errorf("P9.2: the product of %v: %d, not %d", ns, got, want)
		}
	}
}

func TestTimes(t *testing.T) {
	for _, ns := range lists() {
		raised := slices.Clone(ns)
		lowered := slices.Clone(ns)
		for i, n := range ns {
			raised[i] = max(n, 1)
			if n == 0 {
				lowered[i] = math.MinInt + i
			}
		}
		want := stopped(by(anys(raised)...))
		if got := Times(ns...); got != want {
			t.Errorf("P9.1: Times%v: %d, not %d", ns, got, want)
		}
		if got := Times(lowered...); got != want {
			t.Errorf("P9.1: Times%v: %d, not %d", lowered, got, want)
		}
	}
	if Times() != 1 || Times(1<<40, 1<<40) != 1<<62 || Times(0, 5) != 5 || Times(-3, 5, -1) != 5 {
		t.Error("P9.1: Times of the document")
	}
}
