package euclid_test

import (
	"fmt"
	"math/big"
	"slices"

	"ashlar/api"
)

// Answers are held against the document's equations by ore's product. Where that
// refuses, the product is math/big's, which the program itself may not use: what
// i steps of the letter make of a coefficient is taken at once there.

type bigPoly []*big.Int

type bigOp []bigPoly

func bigInt(a api.Int) *big.Int {
	x := new(big.Int)
	for _, w := range slices.Backward(a.L) {
		x.Lsh(x, 32).Or(x, big.NewInt(int64(w)))
	}
	if a.Neg {
		x.Neg(x)
	}
	return x
}

func fromBig(x *big.Int) api.Int {
	out := api.Int{Neg: x.Sign() < 0}
	low := big.NewInt(0xffffffff)
	for y := new(big.Int).Abs(x); y.Sign() > 0; y.Rsh(y, 32) {
		out.L = append(out.L, uint32(new(big.Int).And(y, low).Uint64()))
	}
	return out
}

func toBig(p api.Poly) bigPoly {
	out := bigPoly{}
	for _, c := range p {
		out = append(out, bigInt(c))
	}
	return cut(out)
}

func toBigOp(a api.Op) bigOp {
	out := bigOp{}
	for _, p := range a {
		out = append(out, toBig(p))
	}
	return cutOp(out)
}

func fromBigOp(a bigOp) api.Op {
	var out api.Op
	for _, p := range a {
		var q api.Poly
		for _, c := range p {
			q = append(q, fromBig(c))
		}
		out = append(out, q)
	}
	return out
}

func cut(p bigPoly) bigPoly {
	for len(p) > 0 && p[len(p)-1].Sign() == 0 {
		p = p[:len(p)-1]
	}
	return p
}

func cutOp(a bigOp) bigOp {
	for len(a) > 0 && len(a[len(a)-1]) == 0 {
		a = a[:len(a)-1]
	}
	return a
}

// bigAddTimes adds p times q to sum.
func bigAddTimes(sum, p, q bigPoly) bigPoly {
	for len(sum) < len(p)+len(q) {
		sum = append(sum, new(big.Int))
	}
	for i, a := range p {
		for j, b := range q {
			sum[i+j].Add(sum[i+j], new(big.Int).Mul(a, b))
		}
	}
	return sum
}

// kind is an algebra with the q that New is handed.
type kind struct {
	algebra int
	q       api.Int
}

func (k kind) String() string { return fmt.Sprintf("algebra %d, q %v", k.algebra, bigInt(k.q)) }

// bits tells the bits of the q that a rule of this kind has.
func (k kind) bits() int {
	if k.algebra == api.QShift {
		return bigInt(k.q).BitLen()
	}
	return 0
}

// past gives X^i p.
func (k kind) past(i int, p bigPoly) bigOp {
	out := make(bigOp, i+1)
	switch k.algebra {
	case api.Shift:
		power := bigPoly{big.NewInt(1)}
		for _, c := range p {
			out[i] = bigAddTimes(out[i], power, bigPoly{c})
			power = cut(bigAddTimes(nil, power, bigPoly{big.NewInt(int64(i)), big.NewInt(1)}))
		}
	case api.QShift:
		step := new(big.Int).Exp(bigInt(k.q), big.NewInt(int64(i)), nil)
		power := big.NewInt(1)
		for _, c := range p {
			out[i] = append(out[i], new(big.Int).Mul(c, power))
			power = new(big.Int).Mul(power, step)
		}
	case api.Diff:
		for j := range min(i+1, len(p)) {
			choose := new(big.Int).Binomial(int64(i), int64(j))
			for n := j; n < len(p); n++ {
				falling := new(big.Int).MulRange(int64(n-j+1), int64(n))
				out[i-j] = append(out[i-j], falling.Mul(falling, p[n]).Mul(falling, choose))
			}
		}
	}
	return out
}

func (k kind) product(a, b bigOp) bigOp {
	out := make(bigOp, len(a)+len(b))
	for i, p := range a {
		for j, q := range b {
			if len(p) == 0 || len(q) == 0 {
				continue
			}
			for l, c := range k.past(i, q) {
				out[j+l] = bigAddTimes(out[j+l], p, cut(c))
			}
		}
	}
	for i := range out {
		out[i] = cut(out[i])
	}
	return cutOp(out)
}

// gauged is an operator's size; of zero it is 0, 0, 0.
func gauged(a api.Op) (int, int, int) {
	order, degree, bits := 0, 0, 0
	for i, p := range toBigOp(a) {
		for j, c := range p {
			if c.Sign() != 0 {
				order, degree, bits = i, max(degree, j), max(bits, c.BitLen())
			}
		}
	}
	return order, degree, bits
}

// divideEstimate and commonEstimate are written from the document's words; they
// are only for what does not come near 2^62.
func (k kind) divideEstimate(a, b api.Op) int {
	r, d, m := gauged(a)
	s, e, l := gauged(b)
	return (r + 1) * (s + 1) * (r + s + 2) * (d + e + 2) * (m + l + (r+1)*(k.bits()+2) + 8)
}

func (k kind) commonEstimate(a, b api.Op) int {
	r, d, m := gauged(a)
	s, e, l := gauged(b)
	n := r + s + 2
	return n * n * n * (n*(d+e) + 2) * (m + l + (r+s+1)*(k.bits()+2) + 8)
}

// name tells what is handed in or answered, if it is short.
func name(a api.Op) string {
	s := fmt.Sprint(toBigOp(a))
	if len(s) > 200 {
		s = s[:200] + ".."
	}
	return s
}

func isNormalInt(a api.Int) bool {
	if len(a.L) == 0 {
		return !a.Neg
	}
	return a.L[len(a.L)-1] != 0
}

func isNormalPoly(p api.Poly) bool {
	for _, c := range p {
		if !isNormalInt(c) {
			return false
		}
	}
	return len(p) == 0 || len(p[len(p)-1].L) > 0
}

func isNormal(a api.Op) bool {
	for _, p := range a {
		if !isNormalPoly(p) {
			return false
		}
	}
	return len(a) == 0 || len(a[len(a)-1]) > 0
}
