package closure_test

import (
	"encoding/binary"
	"fmt"
	"math/big"
	"slices"
	"testing"

	"ashlar/api"
	"ashlar/seq"
	"ashlar/unroll"
)

// Answers are held against the document's words by math/big, which the program
// itself may not use.

func bigInt(a api.Int) *big.Int {
	var bytes []byte
	for _, w := range slices.Backward(a.L) {
		bytes = binary.BigEndian.AppendUint32(bytes, w)
	}
	x := new(big.Int).SetBytes(bytes)
	if a.Neg {
		x.Neg(x)
	}
	return x
}

// bigRat gives lowest terms over what is above 0.
func bigRat(v api.Rat) *big.Rat {
	den := bigInt(v.Den)
	if den.Sign() == 0 {
		return new(big.Rat)
	}
	return new(big.Rat).SetFrac(bigInt(v.Num), den)
}

func bigRats(vs []api.Rat) []*big.Rat {
	var out []*big.Rat
	for _, v := range vs {
		out = append(out, bigRat(v))
	}
	return out
}

func fromBig(x *big.Int) api.Int {
	out := api.Int{Neg: x.Sign() < 0, L: make([]uint32, (x.BitLen()+31)/32)}
	bytes := x.FillBytes(make([]byte, 4*len(out.L)))
	for i := range out.L {
		out.L[i] = binary.BigEndian.Uint32(bytes[len(bytes)-4*i-4:])
	}
	return out
}

func fromBigRat(v *big.Rat) api.Rat { return api.Rat{Num: fromBig(v.Num()), Den: fromBig(v.Denom())} }

type bigPoly []*big.Int

func toBig(p api.Poly) bigPoly {
	var out bigPoly
	for _, c := range p {
		out = append(out, bigInt(c))
	}
	for len(out) > 0 && out[len(out)-1].Sign() == 0 {
		out = out[:len(out)-1]
	}
	return out
}

func (p bigPoly) at(n int) *big.Int {
	sum, x := new(big.Int), big.NewInt(int64(n))
	for _, c := range slices.Backward(p) {
		sum.Add(sum.Mul(sum, x), c)
	}
	return sum
}

type bigOp []bigPoly

func opToBig(a api.Op) bigOp {
	var out bigOp
	for _, p := range a {
		out = append(out, toBig(p))
	}
	for len(out) > 0 && len(out[len(out)-1]) == 0 {
		out = out[:len(out)-1]
	}
	return out
}

func (a bigOp) order() int { return len(a) - 1 }

// size tells the degree and the bits.
func (a bigOp) size() (degree, bits int) {
	for _, p := range a {
		degree = max(degree, len(p)-1)
		for _, c := range p {
			bits = max(bits, c.BitLen())
		}
	}
	return degree, bits
}

// relation gives what the relation at n says is 0.
func (a bigOp) relation(n int, values []*big.Rat) *big.Rat {
	sum := new(big.Rat)
	for i, p := range a {
		if c := p.at(n); c.Sign() != 0 {
			sum.Add(sum, new(big.Rat).Mul(new(big.Rat).SetInt(c), values[n+i]))
		}
	}
	return sum
}

// model is what the document says of a sequence.
type model struct {
	op  bigOp
	win []*big.Rat
}

func modelOf(s *seq.Seq) model { return model{op: opToBig(s.Op()), win: bigRats(s.Window())} }

func (m model) String() string {
	s := fmt.Sprint(m.op) + ", " + fmt.Sprint(m.win)
	if len(s) > 200 {
		s = s[:200] + ".."
	}
	return s
}

// values gives the first n values: the window's, and behind it those by which the
// relations hold.
func (m model) values(n int) []*big.Rat {
	out := slices.Clone(m.win)
	r := m.op.order()
	for k := len(out); k < n; k++ {
		sum := new(big.Rat)
		for i, c := range m.op[:r] {
			sum.Add(sum, new(big.Rat).Mul(new(big.Rat).SetInt(c.at(k-r)), out[k-r+i]))
		}
		lead := new(big.Rat).SetInt(m.op[r].at(k - r))
		out = append(out, sum.Neg(sum.Quo(sum, lead)))
	}
	return out[:n]
}

// bits are the greatest of a value of the window.
func (m model) bits() int {
	most := 0
	for _, v := range m.win {
		most = max(most, v.Num().BitLen()+v.Denom().BitLen())
	}
	return most
}

// product gives a product as gauge.Times does.
func product(ns ...int) int {
	out := big.NewInt(1)
	for _, n := range ns {
		out.Mul(out, big.NewInt(int64(max(n, 1))))
	}
	if top := big.NewInt(1 << 62); out.Cmp(top) > 0 {
		out = top
	}
	return int(out.Int64())
}

// closeOf is gauge.Close, written from the document's words.
func closeOf(a, b model) int {
	d, k := a.op.size()
	e, l := b.op.size()
	n := (a.op.order() + 1) * (b.op.order() + 1)
	return max(product(n, n, n, n*(d+e)+1, k+l+8), product(len(a.win)+len(b.win)+1, a.bits()+b.bits()+1))
}

// costOf is Cost, written from the document's words.
func costOf(kind int, a, b *seq.Seq, k int) int {
	difference := model{op: opToBig(api.Op{p(-1), p(1)})}
	switch kind {
	case 1, 3:
		return closeOf(modelOf(a), modelOf(b))
	case 2, 4, 5:
		return closeOf(modelOf(a), difference)
	case 6, 7:
		if k < 1 {
			return 0
		}
		return product(closeOf(modelOf(a), difference), k)
	case 8:
		return product(closeOf(modelOf(a), modelOf(b)), 4)
	}
	return 0
}

// expectValues holds a result's values against those of the document's table, and
// the result against P15.2 at all numbers whose relations speak of these alone.
func expectValues(t *testing.T, what string, s *seq.Seq, most int, want []*big.Rat) {
	t.Helper()
	m := modelOf(s)
	if r := m.op.order(); r < 0 || r > most || r != s.Order() {
		t.Errorf("P15.1: %s: the order %d, not at most %d: %s", what, r, most, m)
		return
	}
	if needs, e := seq.Needs(s.Op()); e != api.OK || bigInt(needs).Cmp(big.NewInt(int64(s.Len()))) > 0 {
		t.Errorf("P15.2: %s: the window does not determine: %s", what, m)
		return
	}
	for n, v := range m.values(max(len(want), len(m.win)))[:len(want)] {
		if v.Cmp(want[n]) != 0 {
			t.Errorf("P15.1: %s: at %d: %s, not %s: %s", what, n, v, want[n], m)
			return
		}
	}
	lead := m.op[m.op.order()]
	for n := range len(want) - m.op.order() {
		if lead.at(n).Sign() != 0 && m.op.relation(n, want).Sign() != 0 {
			t.Errorf("P15.2: %s: the relation at %d does not hold: %s", what, n, m)
			return
		}
	}
	if _, e := seq.Define(s.Op(), s.Window()); e != api.OK && e != api.ErrBig {
		t.Errorf("P15.2: %s: Define refuses it: %d: %s", what, e, m)
	}
	expectUnrolled(t, what, s, want)
}

// expectUnrolled asks unroll for the values, as far as it tells them.
func expectUnrolled(t *testing.T, what string, s *seq.Seq, want []*big.Rat) {
	t.Helper()
	for n, v := range unroll.All(s) {
		if n == len(want) {
			break
		}
		if bigRat(v).Cmp(want[n]) != 0 {
			t.Errorf("P15.1: %s: unrolled, at %d: %s, not %s", what, n, bigRat(v), want[n])
			return
		}
	}
}
