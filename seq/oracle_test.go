package seq_test

import (
	"encoding/binary"
	"fmt"
	"math"
	"math/big"
	"math/bits"
	"slices"
	"testing"

	"ashlar/api"
	"ashlar/seq"
)

// Answers are held against the document's words by math/big, which the program
// itself may not use.

func bigInt(a api.Int) *big.Int {
	var bytes []byte
	for _, w := range slices.Backward(a.L) {
		bytes = binary.BigEndian.AppendUint32(bytes, w)
	}
	x := new(big.Int).SetBytes(bytes)
	if a.Neg {
		x.Neg(x)
	}
	return x
}

func bigRat(v api.Rat) *big.Rat {
	den := bigInt(v.Den)
	if den.Sign() == 0 {
		return new(big.Rat)
	}
	return new(big.Rat).SetFrac(bigInt(v.Num), den)
}

func fromBig(x *big.Int) api.Int {
	out := api.Int{Neg: x.Sign() < 0, L: make([]uint32, (x.BitLen()+31)/32)}
	bytes := x.FillBytes(make([]byte, 4*len(out.L)))
	for i := range out.L {
		out.L[i] = binary.BigEndian.Uint32(bytes[len(bytes)-4*i-4:])
	}
	return out
}

func fromBigRat(v *big.Rat) api.Rat { return api.Rat{Num: fromBig(v.Num()), Den: fromBig(v.Denom())} }

type bigPoly []*big.Int

func toBig(p api.Poly) bigPoly {
	var out bigPoly
	for _, c := range p {
		out = append(out, bigInt(c))
	}
	for len(out) > 0 && out[len(out)-1].Sign() == 0 {
		out = out[:len(out)-1]
	}
	return out
}

func (p bigPoly) at(x *big.Int) *big.Int {
	sum, power := new(big.Int), big.NewInt(1)
	for _, c := range p {
		sum.Add(sum, new(big.Int).Mul(c, power))
		power = new(big.Int).Mul(power, x)
	}
	return sum
}

// natural gives the integers from 0 on at which p, not zero, is 0: none is
// greater than the sum of the sizes of p's entries, and all are gone through. If
// no entry is below 0, it is 0 alone that may be one.
func (p bigPoly) natural() []*big.Int {
	most := new(big.Int)
	for _, c := range p {
		most.Add(most, new(big.Int).Abs(c))
	}
	if !slices.ContainsFunc(p, func(c *big.Int) bool { return c.Sign() < 0 }) {
		most = new(big.Int)
	}
	if most.BitLen() > 20 {
		panic("too many numbers to look through: tell the roots")
	}
	var out []*big.Int
	for n := range most.Int64() + 1 {
		if x := big.NewInt(n); p.at(x).Sign() == 0 {
			out = append(out, x)
		}
	}
	return out
}

// model is what the document says of an operator and a window.
type model struct {
	op    []bigPoly
	win   []*big.Rat
	roots []*big.Int // natural ones of the leading entry, rising
}

// modelOf looks for the leading entry's roots, if none are told.
func modelOf(a api.Op, win []api.Rat, roots ...*big.Int) model {
	var m model
	for _, p := range a {
		m.op = append(m.op, toBig(p))
	}
	for len(m.op) > 0 && len(m.op[len(m.op)-1]) == 0 {
		m.op = m.op[:len(m.op)-1]
	}
	for _, v := range win {
		m.win = append(m.win, bigRat(v))
	}
	m.roots = roots
	if len(roots) == 0 && len(m.op) > 0 {
		m.roots = m.op[m.order()].natural()
	}
	return m
}

func (m model) order() int { return len(m.op) - 1 }

// size is the operator's; of zero 0, 0, 0.
func (m model) size() (int, int, int) {
	degree, most := 0, 0
	for _, p := range m.op {
		degree = max(degree, len(p)-1)
		for _, c := range p {
			most = max(most, c.BitLen())
		}
	}
	return max(m.order(), 0), degree, most
}

// estimate is gauge.Term's, of the window's length.
func (m model) estimate() int {
	w := 0
	for _, v := range m.win {
		w = max(w, v.Num().BitLen()+v.Denom().BitLen())
	}
	return m.estimateOf(len(m.win), w)
}

// estimateOf is that of a window of n values of at most w bits, written from the
// document's words.
func (m model) estimateOf(n, w int) int {
	r, d, k := m.size()
	return max((n+1)*(r+1)*(k+(d+1)*(bits.Len(uint(n))+1)+8), (n+1)*(w+1))
}

// relation is the sum of c_i(n) a(n + i).
func (m model) relation(n int) *big.Rat {
	sum := new(big.Rat)
	for i, p := range m.op {
		c := new(big.Rat).SetInt(p.at(big.NewInt(int64(n))))
		sum.Add(sum, c.Mul(c, m.win[n+i]))
	}
	return sum
}

func (m model) isSingular(n int) bool {
	return slices.ContainsFunc(m.roots, func(x *big.Int) bool { return x.Cmp(big.NewInt(int64(n))) == 0 })
}

// needs is the least length of a window that determines.
func (m model) needs() *big.Int {
	r := big.NewInt(int64(m.order()))
	out := r
	for _, x := range m.roots {
		free := new(big.Int).Add(x, r)
		if out.Cmp(free) <= 0 {
			out = free.Add(free, big.NewInt(1))
		}
	}
	return out
}

func (m model) breaks() bool {
	for n := range len(m.win) - m.order() {
		if !m.isSingular(n) && m.relation(n).Sign() != 0 {
			return true
		}
	}
	return false
}

// refusal is the error of Define, by P11.1.
func (m model) refusal() api.Errno {
	r, d, _ := m.size()
	switch {
	case len(m.win) > 4096:
		return api.ErrArg
	case len(m.op) == 0:
		return api.ErrZero
	case m.estimate() > 1<<20 || r > 256 || d > 256:
		return api.ErrBig
	case big.NewInt(int64(len(m.win))).Cmp(m.needs()) < 0:
		return api.ErrUnder
	case m.breaks():
		return api.ErrBreak
	}
	return api.OK
}

// expect asks Define for what the model says, and tells its error.
func expect(t *testing.T, a api.Op, win []api.Rat, roots ...*big.Int) api.Errno {
	t.Helper()
	m := modelOf(a, win, roots...)
	s, e := seq.Define(a, win)
	if want := m.refusal(); e != want {
		t.Errorf("P11.1: Define(%s): error %d, not %d", m, e, want)
	}
	if (s == nil) != (e != api.OK) {
		t.Errorf("P11.1: Define(%s): %v beside the error %d", m, s, e)
	}
	if s != nil {
		m.expectOf(t, s)
	}
	return e
}

// expectOf holds what a sequence tells against the model.
func (m model) expectOf(t *testing.T, s *seq.Seq) {
	t.Helper()
	if !isOp(s.Op(), m.op) || !isWindow(s.Window(), m.win) {
		t.Errorf("P11.2: of %s: %v, %v", m, s.Op(), s.Window())
	}
	if s.Order() != m.order() || s.Len() != len(m.win) {
		t.Errorf("P11.2: of %s: the order %d, the length %d", m, s.Order(), s.Len())
	}
	var singular []int
	for _, x := range m.roots {
		singular = append(singular, int(x.Int64()))
	}
	if !slices.Equal(s.Singular(), singular) {
		t.Errorf("P11.2: of %s: singular are %v, not %v", m, s.Singular(), singular)
	}
	asked := []int{math.MinInt, math.MinInt + 1, -m.order(), math.MaxInt - 1, math.MaxInt}
	for n := -3; n < len(m.win)+m.order()+3; n++ {
		asked = append(asked, n)
	}
	for _, n := range asked {
		if want := n >= m.order() && m.isSingular(n-m.order()); s.Free(n) != want {
			t.Errorf("P11.2: of %s: Free(%d): %v", m, n, s.Free(n))
		}
	}
}

func (m model) String() string {
	s := fmt.Sprint(m.op) + ", " + fmt.Sprint(m.win)
	if len(s) > 200 {
		s = s[:200] + ".."
	}
	return s
}

// isInt tells whether an answer is a number, in normal form.
func isInt(a api.Int, want *big.Int) bool {
	return bigInt(a).Cmp(want) == 0 && len(a.L) == (want.BitLen()+31)/32 && a.Neg == (want.Sign() < 0)
}

func isPoly(p api.Poly, want bigPoly) bool { return slices.EqualFunc(p, want, isInt) }

func isOp(a api.Op, want []bigPoly) bool { return slices.EqualFunc(a, want, isPoly) }

// isRat tells whether an answer is a number in normal form: big.Rat keeps lowest
// terms over what is above 0, and zero as 0 over 1.
func isRat(v api.Rat, want *big.Rat) bool {
	return isInt(v.Num, want.Num()) && isInt(v.Den, want.Denom())
}

func isWindow(win []api.Rat, want []*big.Rat) bool { return slices.EqualFunc(win, want, isRat) }
