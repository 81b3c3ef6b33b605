package convert_test

import (
	"encoding/binary"
	"fmt"
	"math/big"
	"slices"

	"ashlar/api"
	"ashlar/seq"
)

// Answers are held against the document's words by math/big, which the program
// itself may not use.

func bigInt(a api.Int) *big.Int {
	var bytes []byte
	for _, w := range slices.Backward(a.L) {
		bytes = binary.BigEndian.AppendUint32(bytes, w)
	}
	x := new(big.Int).SetBytes(bytes)
	if a.Neg {
		x.Neg(x)
	}
	return x
}

// bigRat gives lowest terms over what is above 0.
func bigRat(v api.Rat) *big.Rat {
	den := bigInt(v.Den)
	if den.Sign() == 0 {
		return new(big.Rat)
	}
	return new(big.Rat).SetFrac(bigInt(v.Num), den)
}

func bigRats(vs []api.Rat) []*big.Rat {
	var out []*big.Rat
	for _, v := range vs {
		out = append(out, bigRat(v))
	}
	return out
}

func fromBig(x *big.Int) api.Int {
	out := api.Int{Neg: x.Sign() < 0, L: make([]uint32, (x.BitLen()+31)/32)}
	bytes := x.FillBytes(make([]byte, 4*len(out.L)))
	for i := range out.L {
		out.L[i] = binary.BigEndian.Uint32(bytes[len(bytes)-4*i-4:])
	}
	return out
}

func fromBigRat(v *big.Rat) api.Rat { return api.Rat{Num: fromBig(v.Num()), Den: fromBig(v.Denom())} }

type bigPoly []*big.Int

func toBig(p api.Poly) bigPoly {
	var out bigPoly
	for _, c := range p {
		out = append(out, bigInt(c))
	}
	for len(out) > 0 && out[len(out)-1].Sign() == 0 {
		out = out[:len(out)-1]
	}
	return out
}

func (p bigPoly) at(n int) *big.Int {
	sum, x := new(big.Int), big.NewInt(int64(n))
	for _, c := range slices.Backward(p) {
		sum.Add(sum.Mul(sum, x), c)
	}
	return sum
}

type bigOp []bigPoly

func opToBig(a api.Op) bigOp {
	var out bigOp
	for _, p := range a {
		out = append(out, toBig(p))
	}
	for len(out) > 0 && len(out[len(out)-1]) == 0 {
		out = out[:len(out)-1]
	}
	return out
}

func (a bigOp) order() int { return len(a) - 1 }

// size tells the degree and the bits.
func (a bigOp) size() (degree, bits int) {
	for _, p := range a {
		degree = max(degree, len(p)-1)
		for _, c := range p {
			bits = max(bits, c.BitLen())
		}
	}
	return degree, bits
}

// relation gives what the relation at n says is 0.
func (a bigOp) relation(n int, values []*big.Rat) *big.Rat {
	sum := new(big.Rat)
	for i, p := range a {
		if c := p.at(n); c.Sign() != 0 {
			sum.Add(sum, new(big.Rat).Mul(new(big.Rat).SetInt(c), values[n+i]))
		}
	}
	return sum
}

// model is what the document says of a sequence.
type model struct {
	op  bigOp
	win []*big.Rat
}

func modelOf(s *seq.Seq) model { return model{op: opToBig(s.Op()), win: bigRats(s.Window())} }

func (m model) String() string {
	s := fmt.Sprint(m.op) + ", " + fmt.Sprint(m.win)
	if len(s) > 200 {
		s = s[:200] + ".."
	}
	return s
}

// values gives the first n values: the window's, and behind it those by which the
// relations hold.
func (m model) values(n int) []*big.Rat {
	out := slices.Clone(m.win)
	r := m.op.order()
	for k := len(out); k < n; k++ {
		sum := new(big.Rat)
		for i, c := range m.op[:r] {
			sum.Add(sum, new(big.Rat).Mul(new(big.Rat).SetInt(c.at(k-r)), out[k-r+i]))
		}
		lead := new(big.Rat).SetInt(m.op[r].at(k - r))
		out = append(out, sum.Neg(sum.Quo(sum, lead)))
	}
	return out[:n]
}

// product gives a product as gauge.Times does.
func product(ns ...int) int {
	out := big.NewInt(1)
	for _, n := range ns {
		out.Mul(out, big.NewInt(int64(max(n, 1))))
	}
	if top := big.NewInt(1 << 62); out.Cmp(top) > 0 {
		out = top
	}
	return int(out.Int64())
}

// turnOf is gauge.Turn, written from the document's words.
func turnOf(a bigOp) int {
	degree, bits := a.size()
	n := max(a.order(), 0) + degree + 2
	return product(n, n, n, degree+2, bits+8)
}

// falls gives the product of (y + u) for u from 1 to j.
func falls(y, j int) *big.Int {
	out := big.NewInt(1)
	for u := 1; u <= j; u++ {
		out.Mul(out, big.NewInt(int64(y+u)))
	}
	return out
}

// coefficient gives that of x^n in an operator of Diff on a series, by the
// document's sum.
func (a bigOp) coefficient(n int, values []*big.Rat) *big.Rat {
	sum := new(big.Rat)
	for j, p := range a {
		for k, c := range p {
			if c.Sign() == 0 || n < k || n-k+j < 0 {
				continue
			}
			by := new(big.Rat).SetInt(new(big.Int).Mul(c, falls(n-k, j)))
			sum.Add(sum, by.Mul(by, values[n-k+j]))
		}
	}
	return sum
}

// on gives the first coefficients of an operator of Diff on a series, as far as
// they follow from what is handed in: by derivatives, and by products.
func (a bigOp) on(series []*big.Rat) []*big.Rat {
	length := len(series) - max(a.order(), 0)
	out := make([]*big.Rat, length)
	for n := range out {
		out[n] = new(big.Rat)
	}
	for _, p := range a {
		for k, c := range p {
			for n := k; n < length; n++ {
				out[n].Add(out[n], new(big.Rat).Mul(new(big.Rat).SetInt(c), series[n-k]))
			}
		}
		series = derivative(series)
	}
	return out
}

func derivative(series []*big.Rat) []*big.Rat {
	var out []*big.Rat
	for n := 1; n < len(series); n++ {
		out = append(out, new(big.Rat).Mul(big.NewRat(int64(n), 1), series[n]))
	}
	return out
}
