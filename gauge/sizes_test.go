package gauge_test

import (
	"math"
	"slices"
	"testing"

	"ashlar/api"
	"ashlar/gauge"
	"ashlar/limbs"
)

func TestOf(t *testing.T) {
	for _, a := range ops() {
		order, degree, bits := gauged(a)
		want := api.Size{Order: order, Degree: degree, Bits: bits}
		if got := gauge.Of(a); got != want {
			t.Errorf("P9.1: Of (%v): %v", sizeOf(a), got)
		}
		if got := gauge.Of(padded(a)); got != want {
			t.Errorf("P9.1: Of (%v), padded: %v", sizeOf(a), got)
		}
	}
}

func TestOfWrittenOut(t *testing.T) {
	long := make(api.Op, 1<<16)
	far := slices.Clone(long)
	far[1000] = append(make(api.Poly, 500), limbs.Of(-8))
	for i, c := range []struct {
		a    api.Op
		want api.Size
	}{
		{nil, api.Size{}},
		{api.Op{p(0), nil}, api.Size{}},
		{long, api.Size{}},
		{api.Op{p(-1)}, api.Size{Bits: 1}},
		{api.Op{nil, p(1)}, api.Size{Order: 1, Bits: 1}},
		{api.Op{p(1, 1)}, api.Size{Degree: 1, Bits: 1}},
		// Order, degree and bits are each of another entry.
		{api.Op{p(0, 0, 0, 1), p(-1024), p(3)}, api.Size{Order: 2, Degree: 3, Bits: 11}},
		{far, api.Size{Order: 1000, Degree: 500, Bits: 4}},
	} {
		if got := gauge.Of(c.a); got != c.want {
			t.Errorf("P9.1: Of, %d: %v, not %v", i, got, c.want)
		}
	}
}

// orders gives a list in all its orders.
func orders(ns []int) [][]int {
	if len(ns) < 2 {
		return [][]int{ns}
	}
	var out [][]int
	for i, n := range ns {
		rest := slices.Delete(slices.Clone(ns), i, i+1)
		for _, o := range orders(rest) {
			out = append(out, append([]int{n}, o...))
		}
	}
	return out
}

func TestTimes(t *testing.T) {
	const most, least = math.MaxInt, math.MinInt
	for _, c := range []struct {
		ns   []int
		want int
	}{
		{nil, 1}, {[]int{}, 1},
		{[]int{0}, 1}, {[]int{-1}, 1}, {[]int{least}, 1}, {[]int{1}, 1}, {[]int{2}, 2}, {[]int{top - 1}, top - 1},
		{[]int{top}, top}, {[]int{top + 1}, top}, {[]int{most}, top},
		{[]int{0, 5}, 5}, {[]int{-7, 5, least}, 5}, {[]int{-3, -4}, 1}, {[]int{0, 0, 0}, 1}, {[]int{2, 3, 5, 7}, 210},
		{[]int{1 << 40, 1 << 40}, top}, {[]int{1 << 31, 1 << 31}, top}, {[]int{1 << 30, 1 << 31}, 1 << 61},
		// Just below 2^62, just it, and just above.
		{[]int{1<<31 - 1, 1<<31 + 1}, top - 1}, {[]int{1<<31 - 1<<16 + 1, 1<<31 + 1<<16 + 1}, top},
		{[]int{1 << 20, 1 << 20, 1 << 22}, top}, {[]int{1 << 20, 1 << 20, 1<<22 - 1}, top - 1<<40}, {[]int{1 << 20, 1 << 20, 1<<22 + 1}, top},
		{[]int{top, 1, 0}, top}, {[]int{top, 1, 2}, top}, {[]int{top - 1, 0, -5}, top - 1}, {[]int{top/2 + 1, 2}, top}, {[]int{top / 3, 3}, top - 1},
		// What would wrap: to 0, to 1, to what is below 0, to small ones.
		{[]int{1 << 32, 1 << 32}, top}, {[]int{most, most}, top}, {[]int{1 << 31, 1 << 32}, top}, {[]int{1<<32 + 1, 1<<32 - 1}, top},
		{[]int{most, 2, 0, 3}, top}, {[]int{most, most, most}, top}, {[]int{1 << 61, 1 << 61, 1 << 61, 4}, top}, {[]int{top, top, top}, top},
		{[]int{3037000500, 3037000500}, top}, {[]int{most, least}, top}, {[]int{most - 1, 1}, top},
	} {
		for _, ns := range orders(c.ns) {
			before := slices.Clone(ns)
			if got := gauge.Times(ns...); got != c.want {
				t.Errorf("P9.1: Times%v: %d, not %d", ns, got, c.want)
			}
			if !slices.Equal(ns, before) {
				t.Errorf("P0.3: Times%v has changed its list", before)
			}
		}
	}
	if gauge.Times(slices.Repeat([]int{2}, 62)...) != top || gauge.Times(slices.Repeat([]int{2}, 61)...) != 1<<61 {
		t.Error("P9.1: Times of many factors")
	}
	if gauge.Times(slices.Repeat([]int{3, -1}, 100000)...) != top || gauge.Times(make([]int, 100000)...) != 1 {
		t.Error("P9.1: Times of very many factors")
	}
}

func TestTop(t *testing.T) {
	if gauge.Top != top {
		t.Errorf("P9.1: Top: %d", uint64(gauge.Top))
	}
}
