package everywhere

import (
	"math"
	"slices"
	"strings"
	"testing"

	"ashlar/api"
	"ashlar/limbs"
	"ashlar/rat"
)

// ints are integers in normal form and in others.
func ints() []api.Int {
	long := api.Int{L: slices.Repeat([]uint32{0x9e3779b9, 0, 0xffffffff}, 60)}
	return []api.Int{
		{}, {Neg: true}, {L: []uint32{}}, {Neg: true, L: []uint32{0, 0}},
		{L: []uint32{1}}, {Neg: true, L: []uint32{1}}, {L: []uint32{1, 0}}, {Neg: true, L: []uint32{12, 0, 0}},
		{L: []uint32{0xffffffff}}, {L: []uint32{0, 1}}, {Neg: true, L: []uint32{0, 0x80000000}},
		{Neg: true, L: []uint32{5, 6, 7, 8}}, long, {Neg: true, L: long.L[:170]},
	}
}

// rats are all pairs of some of ints.
func rats() []api.Rat {
	var out []api.Rat
	some := ints()
	for i, num := range some {
		for j := i % 3; j < len(some); j += 3 {
			out = append(out, api.Rat{Num: num, Den: some[j]})
		}
	}
	return out
}

func texts() []string {
	long := strings.Repeat("12345678901234567890", 40)
	return []string{
		"", "0", "-0", "7", "-7", "07", "1/2", "2/4", "3/1", "1/0", "-5/7", "5/-7", "/", "x",
		"18446744073709551616", long, "-1/" + long + "1", long + "/7",
	}
}

func wholes() []int64 {
	return []int64{math.MinInt64, -1 << 31, -12, -1, 0, 1, 7, 18, 1<<31 - 1, 1 << 31, math.MaxInt64}
}

func ones[A any](as []A) [][]any {
	var out [][]any
	for _, a := range as {
		out = append(out, []any{a})
	}
	return out
}

func pairs[A, B any](as []A, bs []B) [][]any {
	var out [][]any
	for _, a := range as {
		for _, b := range bs {
			out = append(out, []any{a, b})
		}
	}
	return out
}

func TestLimbs(t *testing.T) {
	one, two := ones(ints()), pairs(ints(), ints())
	for _, c := range []call{
		{"limbs.Of", limbs.Of, ones(wholes())},
		{"limbs.Small", limbs.Small, one},
		{"limbs.Sign", limbs.Sign, one},
		{"limbs.Cmp", limbs.Cmp, two},
		{"limbs.Neg", limbs.Neg, one},
		{"limbs.Add", limbs.Add, two},
		{"limbs.Sub", limbs.Sub, two},
		{"limbs.Mul", limbs.Mul, two},
		{"limbs.Quo", limbs.Quo, two},
		{"limbs.Gcd", limbs.Gcd, two},
		{"limbs.Power", limbs.Power, pairs(ints(), []int{math.MinInt, -1, 0, 1, 2, 5, math.MaxInt})},
		{"limbs.Bits", limbs.Bits, one},
		{"limbs.Mod", limbs.Mod, pairs(ints(), wholes())},
		{"limbs.Text", limbs.Text, one},
		{"limbs.Read", limbs.Read, ones(texts())},
	} {
		hold(t, c)
	}
}

func TestRat(t *testing.T) {
	one, two := ones(rats()), pairs(rats(), rats())
	for _, c := range []call{
		{"rat.Of", rat.Of, pairs(wholes(), wholes())},
		{"rat.Over", rat.Over, pairs(ints(), ints())},
		{"rat.Whole", rat.Whole, one},
		{"rat.Norm", rat.Norm, one},
		{"rat.Cmp", rat.Cmp, two},
		{"rat.Add", rat.Add, two},
		{"rat.Sub", rat.Sub, two},
		{"rat.Mul", rat.Mul, two},
		{"rat.Quo", rat.Quo, two},
		{"rat.Bits", rat.Bits, one},
		{"rat.Text", rat.Text, one},
		{"rat.Read", rat.Read, ones(texts())},
	} {
		hold(t, c)
	}
}
