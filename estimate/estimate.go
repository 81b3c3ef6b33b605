// Package estimate: what calls are estimated at, ahead of their work, in numbers
// that stop at a top. It stands below ore, which refuses by it, so that gauge,
// which stands on ore, can tell the same numbers.
package estimate

import "math/bits"

// Top is where sums and products stop.
const Top = 1 << 62

// Sum gives the sum of numbers that are not below 0.
func Sum(ns ...int) int {
	t := total{0}
	each(ns, t.add)
	return t.n
}

// Product gives the product of numbers that are not below 0.
func Product(ns ...int) int {
	t := total{1}
	each(ns, t.multiply)
	return t.n
}

// Times gives the product; a factor below 1 counts as 1.
func Times(ns ...int) int {
	t := total{1}
	each(ns, t.raise)
	return t.n
}

func each(ns []int, take func(n int)) {
	for _, n := range ns {
		take(n)
	}
}

// total is a number from 0 to Top.
type total struct{ n int }

func (t *total) add(n int) { t.n += min(n, Top-t.n) }

func (t *total) multiply(n int) {
	high, low := bits.Mul64(uint64(t.n), uint64(n))
	if high > 0 || low > Top {
		low = Top
	}
	t.n = int(low)
}

func (t *total) raise(n int) { t.multiply(max(n, 1)) }
