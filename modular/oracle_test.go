package modular_test

import (
	"encoding/binary"
	"fmt"
	"math/big"
	"math/bits"
	"slices"
	"testing"

	"ashlar/api"
	"ashlar/modular"
	"ashlar/seq"
	"ashlar/unroll"
)

// Answers are held against the document's words by math/big, which the program
// itself may not use.

func bigInt(a api.Int) *big.Int {
	var bytes []byte
	for _, w := range slices.Backward(a.L) {
		bytes = binary.BigEndian.AppendUint32(bytes, w)
	}
	x := new(big.Int).SetBytes(bytes)
	if a.Neg {
		x.Neg(x)
	}
	return x
}

// bigRat gives lowest terms over what is above 0.
func bigRat(v api.Rat) *big.Rat {
	den := bigInt(v.Den)
	if den.Sign() == 0 {
		return new(big.Rat)
	}
	return new(big.Rat).SetFrac(bigInt(v.Num), den)
}

func bigRats(vs []api.Rat) []*big.Rat {
	var out []*big.Rat
	for _, v := range vs {
		out = append(out, bigRat(v))
	}
	return out
}

func fromBig(x *big.Int) api.Int {
	out := api.Int{Neg: x.Sign() < 0, L: make([]uint32, (x.BitLen()+31)/32)}
	bytes := x.FillBytes(make([]byte, 4*len(out.L)))
	for i := range out.L {
		out.L[i] = binary.BigEndian.Uint32(bytes[len(bytes)-4*i-4:])
	}
	return out
}

func fromBigRat(v *big.Rat) api.Rat { return api.Rat{Num: fromBig(v.Num()), Den: fromBig(v.Denom())} }

type bigPoly []*big.Int

func toBig(p api.Poly) bigPoly {
	var out bigPoly
	for _, c := range p {
		out = append(out, bigInt(c))
	}
	for len(out) > 0 && out[len(out)-1].Sign() == 0 {
		out = out[:len(out)-1]
	}
	return out
}

func (p bigPoly) at(n int) *big.Int {
	sum, x := new(big.Int), big.NewInt(int64(n))
	for _, c := range slices.Backward(p) {
		sum.Add(sum.Mul(sum, x), c)
	}
	return sum
}

type bigOp []bigPoly

func opToBig(a api.Op) bigOp {
	var out bigOp
	for _, p := range a {
		out = append(out, toBig(p))
	}
	for len(out) > 0 && len(out[len(out)-1]) == 0 {
		out = out[:len(out)-1]
	}
	return out
}

func (a bigOp) order() int { return len(a) - 1 }

// isPrime tells it of what the document takes for one. ProbablyPrime is sure of
// all numbers of 64 bits.
func isPrime(p int64) bool { return p <= 1<<31-1 && big.NewInt(p).ProbablyPrime(0) }

// divides tells whether the number p divides x.
func divides(p int64, x *big.Int) bool {
	return new(big.Int).Mod(x, big.NewInt(p)).Sign() == 0
}

// ratio is what the document says of Rat.
func ratio(v *big.Rat, p int64) (int64, api.Errno) {
	switch {
	case !isPrime(p):
		return 0, api.ErrArg
	case divides(p, v.Denom()):
		return 0, api.ErrPrime
	}
	m := big.NewInt(p)
	r := new(big.Int).Mul(v.Num(), new(big.Int).ModInverse(v.Denom(), m))
	return r.Mod(r, m).Int64(), api.OK
}

// model is what the document says of a sequence.
type model struct {
	op  bigOp
	win []*big.Rat
}

func modelOf(s *seq.Seq) model { return model{op: opToBig(s.Op()), win: bigRats(s.Window())} }

func (m model) String() string {
	s := fmt.Sprint(m.op) + ", " + fmt.Sprint(m.win)
	if len(s) > 200 {
		s = s[:200] + ".."
	}
	return s
}

// values gives the first n values: the window's, and behind it those by which the
// relations hold.
func (m model) values(n int) []*big.Rat {
	out := slices.Clone(m.win)
	r := m.op.order()
	for k := len(out); k < n; k++ {
		sum := new(big.Rat)
		for i, c := range m.op[:r] {
			sum.Add(sum, new(big.Rat).Mul(new(big.Rat).SetInt(c.at(k-r)), out[k-r+i]))
		}
		lead := new(big.Rat).SetInt(m.op[r].at(k - r))
		out = append(out, sum.Neg(sum.Quo(sum, lead)))
	}
	return out[:n]
}

// isBig tells whether gauge.Term, written from the document's words, is above
// MaxBits.
func (m model) isBig(n int) bool {
	d, k, w := 0, 0, 0
	for _, p := range m.op {
		d = max(d, len(p)-1)
		for _, c := range p {
			k = max(k, c.BitLen())
		}
	}
	for _, v := range m.win {
		w = max(w, v.Num().BitLen()+v.Denom().BitLen())
	}
	return max((n+1)*(m.op.order()+1)*(k+(d+1)*(bits.Len(uint(n))+1)+8), (n+1)*(w+1)) > 1<<20
}

// isBad tells whether p divides what ErrPrime speaks of.
func (m model) isBad(n int, p int64) bool {
	for _, v := range m.win {
		if divides(p, v.Denom()) {
			return true
		}
	}
	r := m.op.order()
	for k := range n + 1 {
		if c := m.op[r].at(k); k+r >= len(m.win) && k+r <= n && c.Sign() != 0 && divides(p, c) {
			return true
		}
	}
	return false
}

// refused is the error of Term.
func (m model) refused(n int, p int64) api.Errno {
	switch {
	case !isPrime(p):
		return api.ErrArg
	case n < 0 || n > 4096:
		return api.ErrIndex
	case m.isBig(n):
		return api.ErrBig
	case m.isBad(n, p):
		return api.ErrPrime
	}
	return api.OK
}

// expectTerm asks Term for what the model says, the value being that; and holds
// what is told against unroll.Term's value, brought down by Rat. It tells the error.
func expectTerm(t *testing.T, s *seq.Seq, n int, p int64, value *big.Rat) api.Errno {
	t.Helper()
	m := modelOf(s)
	want, e := int64(0), m.refused(n, p)
	if e == api.OK {
		want, e = ratio(value, p)
	}
	got, f := modular.Term(s, n, p)
	if got != want || f != e {
		t.Errorf("P14.2: Term(%s, %d, %d): %d, %d, not %d, %d", m, n, p, got, f, want, e)
	}
	if f == api.OK {
		expectUnrolled(t, s, n, p, got)
	}
	return f
}

// expectUnrolled holds an answer of Term against unroll.Term's value.
func expectUnrolled(t *testing.T, s *seq.Seq, n int, p, got int64) {
	t.Helper()
	v, e := unroll.Term(s, n)
	r, f := modular.Rat(v, p)
	if e != api.OK || f != api.OK || r != got {
		t.Errorf("P14.2: Term(%s, %d, %d): %d; unroll.Term's value, brought down: %d, %d, %d", modelOf(s), n, p, got, r, e, f)
	}
}

// expectTerms asks Term for each of the first n values, modulo each of the primes.
// It tells how often there was which error.
func expectTerms(t *testing.T, s *seq.Seq, n int, primes []int64) map[api.Errno]int {
	t.Helper()
	told := map[api.Errno]int{}
	for k, v := range modelOf(s).values(n) {
		for _, p := range primes {
			told[expectTerm(t, s, k, p, v)]++
		}
	}
	return told
}

// expectRefusal asks Term for an error that is known without the model.
func expectRefusal(t *testing.T, s *seq.Seq, n int, p int64, want api.Errno) {
	t.Helper()
	r, e := modular.Term(s, n, p)
	if e != want || e != api.OK && r != 0 {
		t.Errorf("P14.2: Term(%s, %d, %d): %d, %d, not the error %d", modelOf(s), n, p, r, e, want)
	}
	if model := modelOf(s).refused(n, p); model != want {
		t.Errorf("the model says of Term(%s, %d, %d): %d, not %d", modelOf(s), n, p, model, want)
	}
}
