package ore_test

import (
	"fmt"
	"math/big"
	"slices"
	"testing"

	"ashlar/api"
)

// The oracle of these tests is math/big, which the program itself may not use:
// polynomials are lists of *big.Int, the last not 0, operators lists of them,
// the last not empty. Where the program goes past a coefficient step by step,
// the oracle takes what i steps make of it at once.

type bigPoly []*big.Int

type bigOp []bigPoly

func bigInt(a api.Int) *big.Int {
	x := new(big.Int)
	for _, w := range slices.Backward(a.L) {
		x.Lsh(x, 32).Or(x, big.NewInt(int64(w)))
	}
	if a.Neg {
		x.Neg(x)
	}
	return x
}

func fromBig(x *big.Int) api.Int {
	out := api.Int{Neg: x.Sign() < 0}
	low := big.NewInt(0xffffffff)
	for y := new(big.Int).Abs(x); y.Sign() > 0; y.Rsh(y, 32) {
		out.L = append(out.L, uint32(new(big.Int).And(y, low).Uint64()))
	}
	return out
}

func toBig(p api.Poly) bigPoly {
	out := bigPoly{}
	for _, c := range p {
		out = append(out, bigInt(c))
	}
	return cut(out)
}

func toBigOp(a api.Op) bigOp {
	out := bigOp{}
	for _, p := range a {
		out = append(out, toBig(p))
	}
	return cutOp(out)
}

func cut(p bigPoly) bigPoly {
	for len(p) > 0 && p[len(p)-1].Sign() == 0 {
		p = p[:len(p)-1]
	}
	return p
}

func cutOp(a bigOp) bigOp {
	for len(a) > 0 && len(a[len(a)-1]) == 0 {
		a = a[:len(a)-1]
	}
	return a
}

func zeroes(n int) bigPoly {
	out := make(bigPoly, n)
	for i := range out {
		out[i] = new(big.Int)
	}
	return out
}

func bigAdd(p, q bigPoly) bigPoly {
	out := zeroes(max(len(p), len(q)))
	for i, c := range p {
		out[i].Add(out[i], c)
	}
	for i, c := range q {
		out[i].Add(out[i], c)
	}
	return cut(out)
}

func bigMul(p, q bigPoly) bigPoly {
	out := zeroes(len(p) + len(q))
	for i, a := range p {
		for j, b := range q {
			out[i+j].Add(out[i+j], new(big.Int).Mul(a, b))
		}
	}
	return cut(out)
}

func bigTimes(p bigPoly, c *big.Int) bigPoly { return bigMul(p, bigPoly{c}) }

// bigInto gives p(by x + plus).
func bigInto(p bigPoly, by, plus *big.Int) bigPoly {
	out, power := bigPoly{}, bigPoly{big.NewInt(1)}
	for _, c := range p {
		out = bigAdd(out, bigTimes(power, c))
		power = bigMul(power, bigPoly{plus, by})
	}
	return out
}

// bigDerived gives the k-th derivative: the entry of x^i times i over k times k!.
func bigDerived(p bigPoly, k int) bigPoly {
	out := bigPoly{}
	for i := k; i < len(p); i++ {
		falling := new(big.Int).MulRange(int64(i-k+1), int64(i))
		out = append(out, falling.Mul(falling, p[i]))
	}
	return cut(out)
}

// kind is an algebra with the q that New is handed.
type kind struct {
	algebra int
	q       api.Int
}

func (k kind) String() string { return fmt.Sprintf("algebra %d, q %v", k.algebra, bigInt(k.q)) }

// on gives what the i-th power of the letter makes of p.
func (k kind) on(i int, p bigPoly) bigPoly {
	switch k.algebra {
	case api.Shift:
		return bigInto(p, big.NewInt(1), big.NewInt(int64(i)))
	case api.Diff:
		return bigDerived(p, i)
	}
	return bigInto(p, new(big.Int).Exp(bigInt(k.q), big.NewInt(int64(i)), nil), new(big.Int))
}

// past gives X^i p.
func (k kind) past(i int, p bigPoly) bigOp {
	out := make(bigOp, i+1)
	if k.algebra != api.Diff {
		out[i] = k.on(i, p)
		return cutOp(out)
	}
	for j := range min(i+1, len(p)) {
		out[i-j] = bigTimes(bigDerived(p, j), new(big.Int).Binomial(int64(i), int64(j)))
	}
	return cutOp(out)
}

func (k kind) product(a, b bigOp) bigOp {
	out := make(bigOp, len(a)+len(b))
	for i, p := range a {
		for j, q := range b {
			if len(p) == 0 || len(q) == 0 {
				continue
			}
			for l, c := range k.past(i, q) {
				out[j+l] = bigAdd(out[j+l], bigMul(p, c))
			}
		}
	}
	return cutOp(out)
}

func (k kind) apply(a bigOp, f bigPoly) bigPoly {
	var out bigPoly
	for i, p := range a {
		out = bigAdd(out, bigMul(p, k.on(i, f)))
	}
	return out
}

func bigOpAdd(a, b bigOp) bigOp {
	out := make(bigOp, max(len(a), len(b)))
	copy(out, a)
	for i, p := range b {
		out[i] = bigAdd(out[i], p)
	}
	return cutOp(out)
}

func bigOpScale(p bigPoly, a bigOp) bigOp {
	out := bigOp{}
	for _, q := range a {
		out = append(out, bigMul(p, q))
	}
	return cutOp(out)
}

// bigSize gives order, degree and bits.
func bigSize(a bigOp) (int, int, int) {
	degree, most := -1, 0
	for _, p := range a {
		degree = max(degree, len(p)-1)
		most = max(most, bigBits(p))
	}
	return len(a) - 1, degree, most
}

func bigBits(p bigPoly) int {
	most := 0
	for _, c := range p {
		most = max(most, c.BitLen())
	}
	return most
}

// bits tells the bits of the q that a rule of this kind has.
func (k kind) bits() int {
	if k.algebra == api.QShift {
		return bigInt(k.q).BitLen()
	}
	return 0
}

// mulEstimate and applyEstimate are written from the document's words; they are
// only for what does not come near 2^62.
func (k kind) mulEstimate(a, b bigOp) int {
	r, d, l := gauged(a)
	s, e, n := gauged(b)
	return (r + 1) * (s + 1) * (d + e + 2) * (l + n + (r+1)*(e+1) + r*(e+1)*k.bits() + 8)
}

func (k kind) applyEstimate(a bigOp, f bigPoly) int {
	r, d, l := gauged(a)
	return (r + 1) * (d + len(f) + 2) * (l + bigBits(f) + (r+1)*(len(f)+1)*(k.bits()+8))
}

// gauged is the size; of zero it is 0, 0, 0.
func gauged(a bigOp) (int, int, int) {
	order, degree, bits := bigSize(a)
	return max(order, 0), max(degree, 0), bits
}

func isInt(got api.Int, want *big.Int) bool {
	normal := len(got.L) == 0 && !got.Neg || len(got.L) > 0 && got.L[len(got.L)-1] != 0
	return normal && bigInt(got).Cmp(want) == 0
}

// isPoly tells whether an answer is a polynomial, in normal form.
func isPoly(got api.Poly, want bigPoly) bool { return slices.EqualFunc(got, want, isInt) }

// isOp tells whether an answer is an operator, in normal form.
func isOp(got api.Op, want bigOp) bool { return slices.EqualFunc(got, want, isPoly) }

// name tells what is handed in or answered, if it is short.
func name(a ...api.Poly) string {
	s := fmt.Sprint(toBigOp(a))
	if len(s) > 300 {
		s = s[:300] + ".."
	}
	return fmt.Sprintf("%d: %s", len(a), s)
}

func expectPoly(t *testing.T, what string, got api.Poly, want bigPoly) {
	t.Helper()
	if !isPoly(got, want) {
		t.Errorf("%s: %s, not %v", what, name(got), want)
	}
}

func expectOp(t *testing.T, what string, got api.Op, want bigOp) {
	t.Helper()
	if !isOp(got, want) {
		t.Errorf("%s: %s, not %v", what, name(got...), want)
	}
}
