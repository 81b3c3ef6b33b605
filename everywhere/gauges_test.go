package everywhere

import (
	"math"
	"slices"
	"testing"

	"ashlar/api"
	"ashlar/gauge"
)

// ratLists are windows: of none, of one, of many values in any form.
func ratLists() [][]api.Rat {
	n := rats()
	return [][]api.Rat{nil, {}, n[:1], n[7:8], n[20:24], {{}, n[30], {}}, n}
}

// with puts each of more behind each list of arguments.
func with[A any](args [][]any, more []A) [][]any {
	var out [][]any
	for _, a := range args {
		for _, m := range more {
			out = append(out, append(slices.Clone(a), m))
		}
	}
	return out
}

func TestGauge(t *testing.T) {
	qs := []api.Int{ints()[0], ints()[3], ints()[7], ints()[11]}
	two := with(pairs(someOps(), someOps()), qs)
	windows := with(pairs(someOps()[:4], someOps()[3:6]), ratLists()[1:5])
	factors := [][]int{nil, {}, {0}, {-1, 5}, {1 << 40, 1 << 40}, {math.MinInt, math.MaxInt, math.MaxInt}, {3, 0, 7}}
	times := func(ns []int) int { return gauge.Times(ns...) }
	for _, c := range []call{
		{"gauge.Of", gauge.Of, ones(ops())},
		{"gauge.Times", times, ones(factors)},
		{"gauge.Mul", gauge.Mul, two},
		{"gauge.Apply", gauge.Apply, with(pairs(someOps(), polys()), qs)},
		{"gauge.Divide", gauge.Divide, two},
		{"gauge.Common", gauge.Common, two},
		{"gauge.Term", gauge.Term, with(pairs(someOps(), ratLists()), []int{math.MinInt, -1, 0, 9, math.MaxInt})},
		{"gauge.Close", gauge.Close, with(windows, ratLists())},
		{"gauge.Turn", gauge.Turn, pairs(ops(), ratLists())},
		{"gauge.Cauchy", gauge.Cauchy, with(windows, ratLists())},
	} {
		hold(t, c)
	}
}
