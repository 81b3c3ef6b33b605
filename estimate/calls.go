package estimate

import (
	"math/bits"

	"ashlar/api"
)

// Window is what an estimate looks at of a list of values.
type Window struct{ Length, Bits int }

// Size gives an operator's size; of zero, whose order and degree are -1, it is
// 0, 0, 0.
func Size(order, degree, bits int) api.Size {
	return api.Size{Order: max(order, 0), Degree: max(degree, 0), Bits: bits}
}

// Mul is the estimate of a product of operators of these sizes, m being the bits
// of q.
func Mul(a, b api.Size, m int) int {
	rows, columns := Sum(a.Order, 1), Sum(b.Degree, 1)
	growth := Sum(Product(rows, columns), Product(a.Order, columns, m))
	return Times(rows, Sum(b.Order, 1), Sum(a.Degree, b.Degree, 2), Sum(a.Bits, b.Bits, growth, 8))
}

// Apply is the estimate of an operator of this size on a polynomial of this
// degree, which may be -1, and these bits, m being the bits of q.
func Apply(a api.Size, degree, bits, m int) int {
	rows := Sum(a.Order, 1)
	growth := Product(rows, degree+2, Sum(m, 8))
	return Times(rows, Sum(a.Degree, degree+3), Sum(a.Bits, bits, growth))
}

// Divide is the estimate of a division, m being the bits of q.
func Divide(a, b api.Size, m int) int {
	rows := Sum(a.Order, 1)
	growth := Product(rows, Sum(m, 2))
	return Times(rows, Sum(b.Order, 1), Sum(a.Order, b.Order, 2), Sum(a.Degree, b.Degree, 2), Sum(a.Bits, b.Bits, growth, 8))
}

// Common is the estimate of a common divisor or multiple, m being the bits of q.
func Common(a, b api.Size, m int) int {
	n := Sum(a.Order, b.Order, 2)
	degrees := Sum(Product(n, Sum(a.Degree, b.Degree)), 2)
	growth := Product(Sum(a.Order, b.Order, 1), Sum(m, 2))
	return Times(n, n, n, degrees, Sum(a.Bits, b.Bits, growth, 8))
}

// Term is the estimate of the term n of a sequence.
func Term(a api.Size, w Window, n int) int {
	n = max(n, 0)
	terms := Sum(n, 1)
	growth := Product(Sum(a.Degree, 1), bits.Len(uint(n))+1)
	return max(Times(terms, Sum(a.Order, 1), Sum(a.Bits, growth, 8)), Times(terms, Sum(w.Bits, 1)))
}

// Close is the estimate of what is made of two sequences.
func Close(a, b api.Size, v, w Window) int {
	n := Product(Sum(a.Order, 1), Sum(b.Order, 1))
	degrees := Sum(Product(n, Sum(a.Degree, b.Degree)), 1)
	return max(Times(n, n, n, degrees, Sum(a.Bits, b.Bits, 8)), windows(v, w))
}

// Turn is the estimate of a conversion.
func Turn(a api.Size) int {
	n := Sum(a.Order, a.Degree, 2)
	return Times(n, n, n, Sum(a.Degree, 2), Sum(a.Bits, 8))
}

// Cauchy is the estimate of a Cauchy product.
func Cauchy(a, b api.Size, v, w Window) int {
	n := Product(Sum(a.Degree, 1), Sum(b.Degree, 1))
	degrees := Product(n, Sum(a.Order, b.Order, a.Degree, b.Degree, 2))
	return max(Times(n, n, n, degrees, Sum(a.Bits, b.Bits, 8)), windows(v, w))
}

// windows is what two windows are estimated at, whatever their operators are.
func windows(v, w Window) int {
	return Times(Sum(v.Length, w.Length, 1), Sum(v.Bits, w.Bits, 1))
}
