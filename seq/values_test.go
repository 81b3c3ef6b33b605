package seq_test

import (
	"math/big"
	"math/rand"
	"testing"

	"ashlar/api"
	"ashlar/limbs"
	"ashlar/seq"
)

// expectValues asks for the sequence of (S - 1)^n and a window, and that Define
// takes it again, if it is not too great.
func expectValues(t *testing.T, what string, s *seq.Seq, n int, win []*big.Rat) {
	t.Helper()
	m := model{win: win}
	for i := range n + 1 {
		c := new(big.Int).Binomial(int64(n), int64(i))
		if (n-i)%2 == 1 {
			c.Neg(c)
		}
		m.op = append(m.op, bigPoly{c})
	}
	if s == nil {
		t.Errorf("P11.3: %s: none", what)
		return
	}
	m.expectOf(t, s)
	_, e := seq.Define(s.Op(), s.Window())
	if want := modelOf(s.Op(), s.Window()).refusal(); e != want {
		t.Errorf("P11.3: %s: Define tells %d, not %d", what, e, want)
	}
}

func TestConst(t *testing.T) {
	vs := []api.Rat{{}, over(1, 1), over(-1, 1), over(7, 3), over(-22, 7), {Num: bitsOf(3000), Den: limbs.Of(-9)}, {Num: limbs.Of(5), Den: bitsOf(2 << 20)}}
	vs = append(vs, raised(vs)...)
	for _, z := range zeros() {
		vs = append(vs, api.Rat{Num: z, Den: z}, api.Rat{Num: limbs.Of(4), Den: z}, api.Rat{Num: z, Den: limbs.Of(-4)})
	}
	for _, v := range vs {
		expectValues(t, "Const", seq.Const(v), 1, []*big.Rat{bigRat(v)})
	}
}

func expectPoly(t *testing.T, p api.Poly) {
	t.Helper()
	q := toBig(p)
	var win []*big.Rat
	for i := range q {
		win = append(win, new(big.Rat).SetInt(q.at(big.NewInt(int64(i)))))
	}
	expectValues(t, "Poly", seq.Poly(p), len(q), win)
}

func TestPolyOfZero(t *testing.T) {
	for _, z := range zeroPolys() {
		s := seq.Poly(z)
		expectPoly(t, z)
		if s.Order() != 0 || s.Len() != 0 || !isOp(s.Op(), []bigPoly{{big.NewInt(1)}}) || len(s.Window()) != 0 {
			t.Errorf("P11.3: Poly of zero: %v, %v", s.Op(), s.Window())
		}
	}
	expectPoly(t, make(api.Poly, 100000))
}

func TestPoly(t *testing.T) {
	some := []api.Poly{
		p(1), p(-1), p(7), p(0, 1), p(0, -1), p(3, 2), p(1, 0, 1), p(0, 0, 0, -5), p(1, -1, 1, -1, 1, -1), at(0, 1, 2, 3, 4), at(0, 1, 2, 3, 4, 5, 6, 7, 8), at(2, 2, -3),
		{bitsOf(200)}, {limbs.Of(1), bitsOf(100), limbs.Neg(bitsOf(33))}, {bitsOf(2 << 20), limbs.Of(1)},
	}
	d := rand.New(rand.NewSource(2))
	for n := range 40 {
		q := make(api.Poly, n+1)
		for i := range q {
			q[i] = api.Int{Neg: d.Intn(2) == 0, L: []uint32{d.Uint32(), d.Uint32() >> d.Intn(32)}}
		}
		some = append(some, q)
	}
	for _, q := range some {
		expectPoly(t, q)
		expectPoly(t, paddedPoly(q))
	}
}

// Poly refuses nothing: no degree that Define refuses, nor that ore's Power does.
func TestPolyOfGreatDegrees(t *testing.T) {
	for _, n := range []int{62, 63, 64, 65, 127, 255, 256, 257, 300, 511, 600} {
		q := make(api.Poly, n+1)
		for i := range q {
			q[i] = limbs.Of(int64(i*i%7 - 3))
		}
		q[n] = limbs.Of(-2)
		expectPoly(t, q)
	}
	expectPoly(t, append(make(api.Poly, 400), limbs.Of(1)))
}

// A polynomial's values obey (S - 1)^(d + 1) at all numbers: a longer window of
// them defines the same sequence.
func TestPolyGoesOn(t *testing.T) {
	for _, q := range []api.Poly{p(4), p(0, 1), p(1, 0, 1), p(-5, 3, 0, 2), at(1, 6, -2, 3)} {
		var win []api.Rat
		for i := range 30 {
			win = append(win, fromBigRat(new(big.Rat).SetInt(toBig(q).at(big.NewInt(int64(i))))))
		}
		if e := expect(t, seq.Poly(q).Op(), win); e != api.OK {
			t.Errorf("P11.3: the values of %v: %d", toBig(q), e)
		}
	}
}
