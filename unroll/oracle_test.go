package unroll_test

import (
	"encoding/binary"
	"fmt"
	"math/big"
	"math/bits"
	"slices"
	"testing"

	"ashlar/api"
	"ashlar/seq"
	"ashlar/unroll"
)

// Answers are held against the document's words by math/big, which the program
// itself may not use.

func bigInt(a api.Int) *big.Int {
	var bytes []byte
	for _, w := range slices.Backward(a.L) {
		bytes = binary.BigEndian.AppendUint32(bytes, w)
	}
	x := new(big.Int).SetBytes(bytes)
	if a.Neg {
		x.Neg(x)
	}
	return x
}

func bigRat(v api.Rat) *big.Rat {
	den := bigInt(v.Den)
	if den.Sign() == 0 {
		return new(big.Rat)
	}
	return new(big.Rat).SetFrac(bigInt(v.Num), den)
}

func bigRats(vs []api.Rat) []*big.Rat {
	var out []*big.Rat
	for _, v := range vs {
		out = append(out, bigRat(v))
	}
	return out
}

func fromBig(x *big.Int) api.Int {
	out := api.Int{Neg: x.Sign() < 0, L: make([]uint32, (x.BitLen()+31)/32)}
	bytes := x.FillBytes(make([]byte, 4*len(out.L)))
	for i := range out.L {
		out.L[i] = binary.BigEndian.Uint32(bytes[len(bytes)-4*i-4:])
	}
	return out
}

func fromBigRat(v *big.Rat) api.Rat { return api.Rat{Num: fromBig(v.Num()), Den: fromBig(v.Denom())} }

type bigPoly []*big.Int

func toBig(p api.Poly) bigPoly {
	var out bigPoly
	for _, c := range p {
		out = append(out, bigInt(c))
	}
	for len(out) > 0 && out[len(out)-1].Sign() == 0 {
		out = out[:len(out)-1]
	}
	return out
}

func (p bigPoly) at(n int) *big.Int {
	sum, power := new(big.Int), big.NewInt(1)
	for _, c := range p {
		sum.Add(sum, new(big.Int).Mul(c, power))
		power = new(big.Int).Mul(power, big.NewInt(int64(n)))
	}
	return sum
}

type bigOp []bigPoly

func opToBig(a api.Op) bigOp {
	var out bigOp
	for _, p := range a {
		out = append(out, toBig(p))
	}
	for len(out) > 0 && len(out[len(out)-1]) == 0 {
		out = out[:len(out)-1]
	}
	return out
}

func (a bigOp) order() int { return len(a) - 1 }

// holds tells whether the sum of a_i(n) values(n + i) is 0.
func (a bigOp) holds(n int, values []api.Rat) bool { return a.relation(n, values).num.Sign() == 0 }

// relation is the sum of a_i(n) values(n + i).
func (a bigOp) relation(n int, values []api.Rat) fraction {
	var terms []fraction
	for i, p := range a {
		if v := values[n+i]; len(p) > 0 && len(v.Num.L) > 0 {
			terms = append(terms, fraction{new(big.Int).Mul(p.at(n), bigInt(v.Num)), bigInt(v.Den)})
		}
	}
	return total(terms)
}

// fraction is not in lowest terms: big.Rat would look for a common divisor with
// each sum, and that takes most of the time.
type fraction struct{ num, den *big.Int }

func total(terms []fraction) fraction {
	switch len(terms) {
	case 0:
		return fraction{new(big.Int), big.NewInt(1)}
	case 1:
		return terms[0]
	}
	a, b := total(terms[:len(terms)/2]), total(terms[len(terms)/2:])
	left, right := new(big.Int).Mul(a.num, b.den), new(big.Int).Mul(b.num, a.den)
	return fraction{left.Add(left, right), new(big.Int).Mul(a.den, b.den)}
}

// model is what the document says of a sequence.
type model struct {
	op  bigOp
	win []*big.Rat
}

func modelOf(s *seq.Seq) model { return model{op: opToBig(s.Op()), win: bigRats(s.Window())} }

// estimate is gauge.Term's, written from the document's words.
func (m model) estimate(n int) int {
	d, k, w := 0, 0, 0
	for _, p := range m.op {
		d = max(d, len(p)-1)
		for _, c := range p {
			k = max(k, c.BitLen())
		}
	}
	for _, v := range m.win {
		w = max(w, v.Num().BitLen()+v.Denom().BitLen())
	}
	return max((n+1)*(m.op.order()+1)*(k+(d+1)*(bits.Len(uint(n))+1)+8), (n+1)*(w+1))
}

// refusal is the error of Term, by P12.1.
func (m model) refusal(n int) api.Errno {
	switch {
	case n < 0 || n > 4096:
		return api.ErrIndex
	case m.estimate(n) > 1<<20:
		return api.ErrBig
	}
	return api.OK
}

// count tells at how many indices there is a value.
func (m model) count() int {
	n := 0
	for m.refusal(n) == api.OK {
		n++
	}
	return n
}

// expectList holds values from 0 on against what makes them those of the
// sequence: the window, and the relations behind it. Of each some, the last ones
// among them, it asks whether it is in normal form.
func (m model) expectList(t *testing.T, vs []api.Rat, some int) {
	t.Helper()
	for k, v := range vs {
		if (len(vs)-1-k)%some == 0 && !isRat(v, bigRat(v)) {
			t.Errorf("P12.1: of %s: the value at %d is not in normal form: %v", m, k, v)
		}
		if k < len(m.win) {
			if !isRat(v, m.win[k]) {
				t.Errorf("P12.1: of %s: at %d, within the window: %s", m, k, bigRat(v))
			}
			continue
		}
		at := k - m.op.order()
		if m.op[m.op.order()].at(at).Sign() == 0 {
			t.Errorf("%s does not determine", m)
		}
		if !m.op.holds(at, vs) {
			t.Errorf("P12.1: of %s: at %d stands %s, and the relation at %d does not hold", m, k, bigRat(v), at)
		}
	}
}

// expectTerms asks Terms for what the model says.
func expectTerms(t *testing.T, s *seq.Seq, n int) []api.Rat {
	t.Helper()
	m := modelOf(s)
	vs, e := unroll.Terms(s, n)
	if want := m.refusal(n); e != want {
		t.Errorf("P12.1: Terms(%s, %d): error %d, not %d", m, n, e, want)
	}
	if e != api.OK {
		if len(vs) != 0 {
			t.Errorf("P12.1: Terms(%s, %d): values beside the error %d", m, n, e)
		}
		return nil
	}
	if len(vs) != n {
		t.Errorf("P12.1: Terms(%s, %d): %d values", m, n, len(vs))
	}
	m.expectList(t, vs, 1)
	return vs
}

// expectTerm asks Term for a value, or for the error that the model says.
func expectTerm(t *testing.T, s *seq.Seq, n int, want *big.Rat) {
	t.Helper()
	m := modelOf(s)
	v, e := unroll.Term(s, n)
	if refusal := m.refusal(n); e != refusal {
		t.Errorf("P12.1: Term(%s, %d): error %d, not %d", m, n, e, refusal)
	}
	if e != api.OK {
		want = new(big.Rat)
	}
	if !isRat(v, want) {
		t.Errorf("P12.1: Term(%s, %d): %s beside the error %d, not %s", m, n, bigRat(v), e, want)
	}
}

// expect asks all calls for the first n values, which are not refused, and for
// each alone.
func expect(t *testing.T, s *seq.Seq, n int) {
	t.Helper()
	vs := expectTerms(t, s, n)
	if len(vs) != n {
		t.Fatalf("P12.1: Terms(%s, %d) is refused", modelOf(s), n)
	}
	for k, v := range vs {
		expectTerm(t, s, k, bigRat(v))
	}
	next := 0
	for k, v := range unroll.All(s) {
		if k != next {
			t.Fatalf("P12.2: All(%s): the index %d behind %d", modelOf(s), k, next-1)
		}
		if k == n {
			break
		}
		if !isRat(v, bigRat(vs[k])) {
			t.Errorf("P12.2: All(%s): at %d: %v, not %v", modelOf(s), k, v, vs[k])
		}
		next++
	}
	if next != n {
		t.Errorf("P12.2: All(%s) ends at %d", modelOf(s), next)
	}
}

func (m model) String() string {
	s := fmt.Sprint(m.op) + ", " + fmt.Sprint(m.win)
	if len(s) > 200 {
		s = s[:200] + ".."
	}
	return s
}

// isInt tells whether an answer is a number, in normal form.
func isInt(a api.Int, want *big.Int) bool {
	return bigInt(a).Cmp(want) == 0 && len(a.L) == (want.BitLen()+31)/32 && a.Neg == (want.Sign() < 0)
}

// isRat tells whether an answer is a number in normal form: big.Rat keeps lowest
// terms over what is above 0, and zero as 0 over 1.
func isRat(v api.Rat, want *big.Rat) bool {
	return isInt(v.Num, want.Num()) && isInt(v.Den, want.Denom())
}
