package split_test

import (
	"encoding/binary"
	"fmt"
	"math/big"
	"math/bits"
	"slices"
	"testing"

	"ashlar/api"
	"ashlar/seq"
	"ashlar/split"
	"ashlar/unroll"
)

// Answers are held against the document's words by math/big, which the program
// itself may not use.

func bigInt(a api.Int) *big.Int {
	var bytes []byte
	for _, w := range slices.Backward(a.L) {
		bytes = binary.BigEndian.AppendUint32(bytes, w)
	}
	x := new(big.Int).SetBytes(bytes)
	if a.Neg {
		x.Neg(x)
	}
	return x
}

func bigRat(v api.Rat) *big.Rat {
	den := bigInt(v.Den)
	if den.Sign() == 0 {
		return new(big.Rat)
	}
	return new(big.Rat).SetFrac(bigInt(v.Num), den)
}

func bigRats(vs []api.Rat) []*big.Rat {
	var out []*big.Rat
	for _, v := range vs {
		out = append(out, bigRat(v))
	}
	return out
}

func fromBig(x *big.Int) api.Int {
	out := api.Int{Neg: x.Sign() < 0, L: make([]uint32, (x.BitLen()+31)/32)}
	bytes := x.FillBytes(make([]byte, 4*len(out.L)))
	for i := range out.L {
		out.L[i] = binary.BigEndian.Uint32(bytes[len(bytes)-4*i-4:])
	}
	return out
}

func fromBigRat(v *big.Rat) api.Rat { return api.Rat{Num: fromBig(v.Num()), Den: fromBig(v.Denom())} }

type bigPoly []*big.Int

func toBig(p api.Poly) bigPoly {
	var out bigPoly
	for _, c := range p {
		out = append(out, bigInt(c))
	}
	for len(out) > 0 && out[len(out)-1].Sign() == 0 {
		out = out[:len(out)-1]
	}
	return out
}

func (p bigPoly) at(n int) *big.Int {
	sum, power := new(big.Int), big.NewInt(1)
	for _, c := range p {
		sum.Add(sum, new(big.Int).Mul(c, power))
		power = new(big.Int).Mul(power, big.NewInt(int64(n)))
	}
	return sum
}

type bigOp []bigPoly

func opToBig(a api.Op) bigOp {
	var out bigOp
	for _, p := range a {
		out = append(out, toBig(p))
	}
	for len(out) > 0 && len(out[len(out)-1]) == 0 {
		out = out[:len(out)-1]
	}
	return out
}

func (a bigOp) order() int { return len(a) - 1 }

// relation is the sum of a_i(n) values(n + i).
func (a bigOp) relation(n int, values []*big.Rat) *big.Rat {
	sum := new(big.Rat)
	for i, p := range a {
		sum.Add(sum, new(big.Rat).Mul(new(big.Rat).SetInt(p.at(n)), values[n+i]))
	}
	return sum
}

// moved gives the operator with its entries at n: its relation at 0 is that at n.
func (a bigOp) moved(n int) bigOp {
	var out bigOp
	for _, p := range a {
		out = append(out, bigPoly{p.at(n)})
	}
	return out
}

// matrix is one of whole numbers.
type matrix [][]*big.Int

// square is the matrix of r rows with this number on the diagonal above the main
// one, at the distance given.
func square(r, distance int, n *big.Int) matrix {
	m := make(matrix, r)
	for i := range m {
		for j := range r {
			m[i] = append(m[i], new(big.Int))
			if j == i+distance {
				m[i][j].Set(n)
			}
		}
	}
	return m
}

// step is the step at k, by the document's words.
func (a bigOp) step(k int) (matrix, *big.Int) {
	r := a.order()
	d := a[r].at(k)
	m := square(r, 1, d)
	for i, p := range a[:r] {
		m[r-1][i] = new(big.Int).Neg(p.at(k))
	}
	return m, d
}

// steps is the product of those from .. to - 1, one by one.
func (a bigOp) steps(from, to int) (matrix, *big.Int) {
	m, d := square(a.order(), 0, big.NewInt(1)), big.NewInt(1)
	for k := from; k < to; k++ {
		next, by := a.step(k)
		m, d = next.times(m), by.Mul(by, d)
	}
	return m, d
}

func (m matrix) times(n matrix) matrix {
	var out matrix
	for _, row := range m {
		sums := square(len(n[0]), 0, new(big.Int))[0]
		for i, c := range row {
			for j, x := range n[i] {
				if c.Sign() != 0 && x.Sign() != 0 {
					sums[j].Add(sums[j], new(big.Int).Mul(c, x))
				}
			}
		}
		out = append(out, sums)
	}
	return out
}

// leads tells whether d times the vector at to is m times the vector at from.
func (m matrix) leads(d *big.Int, values []*big.Rat, from, to int) bool {
	for i, row := range m {
		sum := new(big.Rat)
		for j, c := range row {
			sum.Add(sum, new(big.Rat).Mul(new(big.Rat).SetInt(c), values[from+j]))
		}
		if sum.Cmp(new(big.Rat).Mul(new(big.Rat).SetInt(d), values[to+i])) != 0 {
			return false
		}
	}
	return true
}

func toMatrix(m [][]api.Int) matrix {
	var out matrix
	for _, row := range m {
		var sums []*big.Int
		for _, c := range row {
			sums = append(sums, bigInt(c))
		}
		out = append(out, sums)
	}
	return out
}

// isMatrix tells whether an answer is a matrix, all numbers in normal form.
func isMatrix(m [][]api.Int, want matrix) bool {
	return slices.EqualFunc(m, want, func(row []api.Int, wants []*big.Int) bool {
		return slices.EqualFunc(row, wants, isInt)
	})
}

// isInt tells whether an answer is a number, in normal form.
func isInt(a api.Int, want *big.Int) bool {
	return bigInt(a).Cmp(want) == 0 && len(a.L) == (want.BitLen()+31)/32 && a.Neg == (want.Sign() < 0)
}

// isRat tells whether an answer is a number in normal form: big.Rat keeps lowest
// terms over what is above 0, and zero as 0 over 1.
func isRat(v api.Rat, want *big.Rat) bool {
	return isInt(v.Num, want.Num()) && isInt(v.Den, want.Denom())
}

// model is what the document says of a sequence.
type model struct {
	op  bigOp
	win []*big.Rat
}

func modelOf(s *seq.Seq) model { return model{op: opToBig(s.Op()), win: bigRats(s.Window())} }

func (m model) String() string {
	s := fmt.Sprint(m.op) + ", " + fmt.Sprint(m.win)
	if len(s) > 200 {
		s = s[:200] + ".."
	}
	return s
}

// values gives the first n values: the window's, and behind it those by which the
// relations hold.
func (m model) values(n int) []*big.Rat {
	out := slices.Clone(m.win)
	for k := len(out); k < n; k++ {
		r := m.op.order()
		sum := m.op[:r].relation(k-r, out)
		lead := new(big.Rat).SetInt(m.op[r].at(k - r))
		out = append(out, sum.Neg(sum.Quo(sum, lead)))
	}
	return out[:n]
}

// isBig tells whether gauge.Term, written from the document's words, is above
// MaxBits.
func (m model) isBig(n int) bool {
	d, k, w := 0, 0, 0
	for _, p := range m.op {
		d = max(d, len(p)-1)
		for _, c := range p {
			k = max(k, c.BitLen())
		}
	}
	for _, v := range m.win {
		w = max(w, v.Num().BitLen()+v.Denom().BitLen())
	}
	return max((n+1)*(m.op.order()+1)*(k+(d+1)*(bits.Len(uint(n))+1)+8), (n+1)*(w+1)) > 1<<20
}

func (m model) isSingular(k int) bool { return m.op[m.op.order()].at(k).Sign() == 0 }

// refusedTerm is the error of Term.
func (m model) refusedTerm(n int) api.Errno {
	switch {
	case n < 0 || n > 4096:
		return api.ErrIndex
	case m.isBig(n):
		return api.ErrBig
	}
	return api.OK
}

// refusedStep is the error of Step.
func (m model) refusedStep(k int) api.Errno {
	switch {
	case m.op.order() < 1 || k < 0 || k > 4096:
		return api.ErrArg
	case m.isSingular(k):
		return api.ErrIndex
	}
	return api.OK
}

// refusedRange is the error of Range.
func (m model) refusedRange(from, to int) api.Errno {
	if m.op.order() < 1 || from < 0 || from > to || to > 4096 {
		return api.ErrArg
	}
	if m.isBig(to) {
		return api.ErrBig
	}
	for k := from; k < to; k++ {
		if m.isSingular(k) {
			return api.ErrIndex
		}
	}
	return api.OK
}

// expectTerm asks Term for what unroll.Term answers, and both for a value, or for
// the error that the model says.
func expectTerm(t *testing.T, s *seq.Seq, n int, want *big.Rat) {
	t.Helper()
	m := modelOf(s)
	refusal := m.refusedTerm(n)
	if refusal != api.OK {
		want = new(big.Rat)
	}
	if v, e := split.Term(s, n); e != refusal || !isRat(v, want) {
		t.Errorf("P13.1: Term(%s, %d): %s, %d, not %s, %d", m, n, bigRat(v), e, want, refusal)
	}
	if v, e := unroll.Term(s, n); e != refusal || !isRat(v, want) {
		t.Errorf("P13.1: unroll.Term(%s, %d): %s, %d, not %s, %d", m, n, bigRat(v), e, want, refusal)
	}
}

// expectTerms asks Term for each of the first n values.
func expectTerms(t *testing.T, s *seq.Seq, n int) {
	t.Helper()
	for k, want := range modelOf(s).values(n) {
		expectTerm(t, s, k, want)
	}
}

// expectStep asks Step for what the model says, and tells the error.
func expectStep(t *testing.T, s *seq.Seq, k int) api.Errno {
	t.Helper()
	op := modelOf(s)
	got, d, e := split.Step(s, k)
	if want := op.refusedStep(k); e != want {
		t.Errorf("P13.2: Step(%s, %d): error %d, not %d", op, k, e, want)
	}
	if e != api.OK {
		expectNothing(t, got, d)
		return e
	}
	if m, by := op.op.step(k); !isMatrix(got, m) || !isInt(d, by) {
		t.Errorf("P13.2: Step(%s, %d): %v, %s, not %v, %s", op, k, toMatrix(got), bigInt(d), m, by)
	}
	return e
}

// expectRange asks Range for what the model says, and tells the error.
func expectRange(t *testing.T, s *seq.Seq, from, to int) api.Errno {
	t.Helper()
	op := modelOf(s)
	got, d, e := split.Range(s, from, to)
	if want := op.refusedRange(from, to); e != want {
		t.Errorf("P13.2: Range(%s, %d, %d): error %d, not %d", op, from, to, e, want)
	}
	if e != api.OK {
		expectNothing(t, got, d)
		return e
	}
	if m, by := op.op.steps(from, to); !isMatrix(got, m) || !isInt(d, by) {
		t.Errorf("P13.2: Range(%s, %d, %d): %v, %s, not %v, %s", op, from, to, toMatrix(got), bigInt(d), m, by)
	}
	return e
}

// expectNothing looks at what stands beside an error.
func expectNothing(t *testing.T, m [][]api.Int, d api.Int) {
	t.Helper()
	if len(m) != 0 || !isInt(d, new(big.Int)) {
		t.Errorf("P13.2: %v, %v beside an error", m, d)
	}
}
