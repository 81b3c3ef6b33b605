package convert

import (
	"math"

	"ashlar/api"
	"ashlar/ore"
	"ashlar/upoly"
)

// A line of an operator of Diff are its coefficients p(j, k) of x^k D^j with one
// j - k, that of j = 0 first. It takes each power of x to the one that is greater
// by k - j, times a number: that is the line by falling powers, at the power.

// linesOf gives the lines of an operator that is not zero, from the least j - k on
// at which a coefficient is not 0, up to the greatest.
func linesOf(a api.Op) [][]api.Int {
	a = ore.Norm(a)
	low, high := math.MaxInt, math.MinInt
	for j, p := range a {
		for k := range upoly.Terms(p) {
			low, high = min(low, j-k), max(high, j-k)
		}
	}
	out := make([][]api.Int, high-low+1)
	for t := range out {
		out[t] = make([]api.Int, len(a))
	}
	for j, p := range a {
		for k, c := range upoly.Terms(p) {
			out[j-k-low][j] = c
		}
	}
	return out
}

// entries gives the operator of lines from j - k = 0 on, downwards: that of x^(t + j)
// D^j stands at j in the line t.
func entries(lines [][]api.Int) api.Op {
	var out api.Op
	for t, line := range lines {
		for j, c := range line {
			if j >= len(out) {
				out = append(out, make(api.Poly, len(lines)+j))
			}
			out[j][t+j] = c
		}
	}
	return out
}
