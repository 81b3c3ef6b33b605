package convert_test

import (
	"math/rand"
	"slices"
	"testing"

	"ashlar/api"
	"ashlar/limbs"
	"ashlar/rat"
	"ashlar/roots"
	"ashlar/seq"
	"ashlar/upoly"
)

func p(ns ...int64) api.Poly { return upoly.Of(ns...) }

// at gives the polynomial with these roots.
func at(ns ...int64) api.Poly {
	out := p(1)
	for _, n := range ns {
		out = roots.With(out, limbs.Of(n))
	}
	return out
}

// power gives x^n.
func power(n int) api.Poly { return append(make(api.Poly, n), limbs.Of(1)) }

// values gives whole numbers as a window.
func values(ns ...int64) []api.Rat {
	var out []api.Rat
	for _, n := range ns {
		out = append(out, over(n, 1))
	}
	return out
}

func over(num, den int64) api.Rat {
	v, _ := rat.Of(num, den)
	return v
}

// zeros are the integer 0 in all its forms.
func zeros() []api.Int {
	return []api.Int{
		{}, {Neg: true}, {L: []uint32{}}, {L: []uint32{0}},
		{Neg: true, L: []uint32{0}}, {Neg: true, L: []uint32{0, 0, 0}},
	}
}

// wide gives a with highest limbs that are 0; 0 gets a Neg.
func wide(a api.Int) api.Int {
	return api.Int{Neg: a.Neg || limbs.Sign(a) == 0, L: append(slices.Clone(a.L), 0, 0)}
}

// padded gives a with entries in wide forms, and with zeros at its end and at the
// ends of its entries.
func padded(a api.Op) api.Op {
	var out api.Op
	for _, q := range a {
		var wider api.Poly
		for _, c := range q {
			wider = append(wider, wide(c))
		}
		out = append(out, append(wider, zeros()...))
	}
	return append(out, nil, api.Poly{}, zeros(), api.Poly{zeros()[5]})
}

// raised gives the values not in lowest terms: both parts times a number, each
// time another. What is 0 comes over 0.
func raised(win []api.Rat) []api.Rat {
	out := make([]api.Rat, len(win))
	for i, v := range win {
		by := []api.Int{limbs.Of(-1), limbs.Of(6), {Neg: true, L: []uint32{0, 0, 35}}}[i%3]
		out[i] = api.Rat{Num: wide(limbs.Mul(v.Num, by)), Den: wide(limbs.Mul(v.Den, by))}
		if limbs.Sign(v.Num) == 0 {
			out[i] = api.Rat{Num: limbs.Of(int64(i)), Den: zeros()[i%len(zeros())]}
		}
	}
	return out
}

// bitsOf gives 2^(n - 1), a number of n bits; 0 for none.
func bitsOf(n int) api.Int {
	out := api.Int{L: make([]uint32, (n+31)/32)}
	if n > 0 {
		out.L[(n-1)/32] = 1 << ((n - 1) % 32)
	}
	return out
}

// opOf is of this order, degree and bits, each of an entry of its own, if there
// are so many; it has no singular number.
func opOf(order, degree, bits int) api.Op {
	out := make(api.Op, order+1)
	out[0] = make(api.Poly, degree+1)
	out[0][degree] = limbs.Of(1)
	out[0][0] = bitsOf(bits)
	if order > 0 {
		out[order] = p(1)
	}
	return out
}

// pair is what Define is handed.
type pair struct {
	a   api.Op
	win []api.Rat
}

func (c pair) define(t *testing.T) *seq.Seq {
	t.Helper()
	s, e := seq.Define(c.a, c.win)
	if e != api.OK {
		t.Fatalf("Define(%s): %d", model{opToBig(c.a), bigRats(c.win)}, e)
	}
	return s
}

func fibonacci(t *testing.T) *seq.Seq {
	t.Helper()
	return pair{api.Op{p(-1), p(-1), p(1)}, values(0, 1)}.define(t)
}

func factorials(t *testing.T) *seq.Seq {
	t.Helper()
	return pair{api.Op{p(-1, -1), p(1)}, values(1)}.define(t)
}

// inverses are 1 over n!.
func inverses(t *testing.T) *seq.Seq {
	t.Helper()
	return pair{api.Op{p(-1), p(1, 1)}, values(1)}.define(t)
}

// plainPairs define sequences of the orders 1 to 4, and some of higher ones.
func plainPairs() []pair {
	long := api.Rat{Num: limbs.Of(1), Den: limbs.Add(bitsOf(120), limbs.Of(1))}
	return []pair{
		// Order 1: whole values and others, leading entries below 0.
		{api.Op{p(-1, -1), p(1)}, values(1)}, {api.Op{p(-1), p(1, 1)}, values(1)}, {api.Op{p(3), p(-2)}, values(1)}, {api.Op{p(-2, -4), p(2, 1)}, values(1)},
		{api.Op{p(-1), p(1)}, []api.Rat{over(-22, 7)}}, {api.Op{at(3), p(5)}, values(9)}, {api.Op{nil, p(3)}, values(4)}, {api.Op{p(9), p(-2, 1, 7)}, values(0)},
		{api.Op{{bitsOf(99)}, {limbs.Neg(bitsOf(70)), limbs.Of(-1)}}, []api.Rat{over(1, 2)}}, {api.Op{p(-60, -47, -12, -1), p(1)}, []api.Rat{over(1, 1209600)}},
		// Order 2.
		{api.Op{p(-1), p(-1), p(1)}, values(0, 1)}, {api.Op{p(-1), p(-1), p(2)}, values(0, 1)}, {api.Op{p(1, 1), p(-3, -2), p(2, 1)}, values(0, 1)},
		{api.Op{p(1), p(0, -1), p(2, 3, 1)}, values(1, 1)}, {api.Op{p(-3, -3), p(-5, -2), p(4, 1)}, values(1, 1)}, {api.Op{p(4, 1), p(1), p(-7, 2)}, values(1, 2)},
		{api.Op{p(-2, 1), p(0, 0, -1), p(3, -2)}, []api.Rat{over(-1, 7), over(3, 4)}}, {api.Op{nil, p(-1), p(1)}, []api.Rat{long, over(1, 3)}}, {api.Op{at(4), p(-2), p(3, 1)}, values(1, 6)},
		{api.Op{at(3), nil, p(-2)}, values(5, 8)}, {api.Op{p(-1), p(-1), p(1)}, values(0, 0)}, {api.Op{nil, nil, p(1, 1)}, values(4, 6)}, {api.Op{power(30), p(-1), p(2, 0, 5)}, values(1, 1)},
		// Orders 3 and 4.
		{api.Op{p(6), p(1), p(-4, -8), p(35, 10)}, []api.Rat{over(1, 2), over(1, 3), over(1, 5)}}, {api.Op{p(-1), p(-1), p(1), p(1)}, []api.Rat{long, over(1, 1), long}},
		{api.Op{p(0, 1), nil, p(-5), p(-4, 0, -1)}, values(1, -2, 3)}, {api.Op{p(-1), p(0, 2), nil, p(1, 1), p(3)}, values(1, 0, 0, -1)}, {api.Op{p(1, 1, 1), nil, nil, nil, p(-1, -2)}, []api.Rat{over(1, 2), over(2, 3), over(3, 4), over(4, 5)}},
		// Free indices.
		{api.Op{p(0, -1), at(2)}, values(1, 0, 0, 7)}, filled(api.Op{p(1), at(0, 2)}, 4, values(0, -3, 8)), filled(api.Op{p(-5, 1), p(1), at(0, 1)}, 4, values(5, 2, 3, 4)),
		filled(api.Op{p(0, 1), p(1), at(6, 2)}, 9, values(2, 3, -4, 7)), filled(api.Op{p(3), at(5, 1, 1)}, 7, []api.Rat{over(1, 2), over(2, 3), over(9, 1)}), filled(api.Op{p(1), p(0, 3), p(2), at(9)}, 13, values(1, 1, -2, 6)),
		// High orders.
		{api.Op{p(1), p(2), nil, p(0, 1), p(-1), p(1, 3)}, values(1, 2, 3, 4, 5)}, {append(append(make(api.Op, 20), p(1, -1)), p(2)), values(1, 2, 3, 4, 5, 6, 7, 8, 9, 10, 11, 12, 13, 14, 15, 16, 17, 18, 19, 20, 21)},
	}
}

// pairsOfNoOrder define sequences of the order 0.
func pairsOfNoOrder() []pair {
	return []pair{{api.Op{p(1)}, nil}, {api.Op{p(-4)}, values(0, 0)}, {api.Op{p(2, 1)}, nil}, {api.Op{at(0)}, values(5)}, {api.Op{at(3, 1)}, values(0, 4, 0, 5)}, {api.Op{at(1)}, []api.Rat{{}, over(2, 15), {}}}}
}

// longer gives a window that is longer by what the relations say.
func (c pair) longer(by int) pair {
	m := model{op: opToBig(c.a), win: bigRats(c.win)}
	out := pair{a: c.a}
	for _, v := range m.values(len(c.win) + by) {
		out.win = append(out.win, fromBigRat(v))
	}
	return out
}

// filled gives a window of this length: what is free in it, and its first values,
// as told, in their order, and what the relations say of the others.
func filled(a api.Op, length int, free []api.Rat) pair {
	op, out := opToBig(a), pair{a: a}
	for k := range length {
		n := k - op.order()
		if n >= 0 && op[op.order()].at(n).Sign() != 0 {
			out = out.longer(1)
			continue
		}
		out.win, free = append(out.win, free[0]), free[1:]
	}
	return out
}

// randomPair gives an operator whose leading entry has roots, often natural ones,
// and a window: what is free there, and the first values, are what chance says.
func randomPair(d *rand.Rand, order int) pair {
	var out api.Op
	for range order {
		q := make(api.Poly, d.Intn(4))
		for i := range q {
			q[i] = limbs.Of(d.Int63n(9) - 4)
		}
		out = append(out, q)
	}
	lead, needs := p(d.Int63n(7)*2-5), order // An odd number: not 0.
	for range d.Intn(4) {
		x := d.Int63n(12) - 3
		lead = roots.With(lead, limbs.Of(x))
		needs = max(needs, order+int(x)+1)
	}
	if d.Intn(3) == 0 {
		lead = upoly.Mul(lead, p(-3, 2))
	}
	var free []api.Rat
	for range order + 4 {
		free = append(free, over(d.Int63n(19)-9, 1+d.Int63n(4)))
	}
	return filled(append(out, lead), needs+d.Intn(3), free)
}
