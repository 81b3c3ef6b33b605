// Package estimate: what calls are estimated at, ahead of their work, in numbers
// that stop at a top. It stands below ore, which refuses by it, so that gauge,
// which stands on ore, can tell the same numbers.
package estimate

import (
	"math/bits"

	"ashlar/api"
)

// Top is where sums and products stop.
const Top = 1 << 62

// Size gives an operator's size; of zero, whose order and degree are -1, it is
// 0, 0, 0.
func Size(order, degree, bits int) api.Size {
	return api.Size{Order: max(order, 0), Degree: max(degree, 0), Bits: bits}
}

// Mul is the estimate of a product of operators of these sizes, m being the bits
// of q.
func Mul(a, b api.Size, m int) int {
	rows, columns := Sum(a.Order, 1), Sum(b.Degree, 1)
	growth := Sum(Product(rows, columns), Product(a.Order, columns, m))
	return Times(rows, Sum(b.Order, 1), Sum(a.Degree, b.Degree, 2), Sum(a.Bits, b.Bits, growth, 8))
}

// Apply is the estimate of an operator of this size on a polynomial of this
// degree, which may be -1, and these bits, m being the bits of q.
func Apply(a api.Size, degree, bits, m int) int {
	rows := Sum(a.Order, 1)
	growth := Product(rows, degree+2, Sum(m, 8))
	return Times(rows, Sum(a.Degree, degree+3), Sum(a.Bits, bits, growth))
}

// Sum gives the sum of numbers that are not below 0.
func Sum(ns ...int) int {
	t := total{0}
	each(ns, t.add)
	return t.n
}

// Product gives the product of numbers that are not below 0.
func Product(ns ...int) int {
	t := total{1}
	each(ns, t.multiply)
	return t.n
}

// Times gives the product; a factor below 1 counts as 1.
func Times(ns ...int) int {
	t := total{1}
	each(ns, t.raise)
	return t.n
}

func each(ns []int, take func(n int)) {
	for _, n := range ns {
		take(n)
	}
}

// total is a number from 0 to Top.
type total struct{ n int }

func (t *total) add(n int) { t.n += min(n, Top-t.n) }

func (t *total) multiply(n int) {
	high, low := bits.Mul64(uint64(t.n), uint64(n))
	if high > 0 || low > Top {
		low = Top
	}
	t.n = int(low)
}

func (t *total) raise(n int) { t.multiply(max(n, 1)) }
