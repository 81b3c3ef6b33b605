package limbs

import (
	"cmp"
	"slices"

	"ashlar/api"
)

// The sizes of numbers, without their signs, are limbs with the lowest first.
// Whoever is handed one only reads it, unless its remark says otherwise; what
// the functions that answer one answer is fresh, but for trim.

// number gives the number of a size that nobody else holds. Its spare room is
// cut off, so that an answer has none.
func number(neg bool, x []uint32) api.Int {
	x = trim(x)
	if len(x) == 0 {
		return api.Int{}
	}
	return api.Int{Neg: neg, L: slices.Clip(x)}
}

// trim gives x without its highest limbs that are 0, in x's own memory.
func trim(x []uint32) []uint32 {
	n := len(x)
	for n > 0 && x[n-1] == 0 {
		n--
	}
	return x[:n]
}

func clone(x []uint32) []uint32 {
	z := make([]uint32, len(x))
	copy(z, x)
	return z
}

func words(m uint64) []uint32 { return []uint32{uint32(m), uint32(m >> 32)} }

// join is the way back from words, of at most two limbs.
func join(x []uint32) uint64 {
	var m uint64
	for i, w := range x {
		m |= uint64(w) << (32 * i)
	}
	return m
}

func compare(x, y []uint32) int {
	x, y = trim(x), trim(y)
	if len(x) != len(y) {
		return cmp.Compare(len(x), len(y))
	}
	for i := len(x) - 1; i >= 0; i-- {
		if x[i] != y[i] {
			return cmp.Compare(x[i], y[i])
		}
	}
	return 0
}

func sum(x, y []uint32) []uint32 {
	z := make([]uint32, max(len(x), len(y))+1)
	copy(z, x)
	addTo(z, y)
	return z
}

// difference is x - y; x is not below y.
func difference(x, y []uint32) []uint32 {
	z := clone(x)
	takeFrom(z, trim(y))
	return z
}

// addTo adds x to z, which is at least as long, and tells what does not fit.
func addTo(z, x []uint32) uint32 {
	var carry uint64
	for i, w := range x {
		t := uint64(z[i]) + uint64(w) + carry
		z[i], carry = uint32(t), t>>32
	}
	for i := len(x); i < len(z) && carry > 0; i++ {
		z[i]++
		if z[i] != 0 {
			carry = 0
		}
	}
	return uint32(carry)
}

// takeFrom takes x from z, which is at least as long, and tells what lacks.
func takeFrom(z, x []uint32) uint32 {
	var lack uint64
	for i, w := range x {
		t := uint64(z[i]) - uint64(w) - lack
		z[i], lack = uint32(t), t>>63
	}
	for i := len(x); i < len(z) && lack > 0; i++ {
		if z[i] != 0 {
			lack = 0
		}
		z[i]--
	}
	return uint32(lack)
}
