package seq_test

import (
	"math/big"
	"math/rand"
	"slices"

	"ashlar/api"
	"ashlar/limbs"
	"ashlar/rat"
	"ashlar/roots"
	"ashlar/upoly"
)

func p(ns ...int64) api.Poly { return upoly.Of(ns...) }

// at gives the polynomial with these roots.
func at(ns ...int64) api.Poly {
	out := p(1)
	for _, n := range ns {
		out = roots.With(out, limbs.Of(n))
	}
	return out
}

// values gives whole numbers as a window.
func values(ns ...int64) []api.Rat {
	var out []api.Rat
	for _, n := range ns {
		v, _ := rat.Of(n, 1)
		out = append(out, v)
	}
	return out
}

func over(num, den int64) api.Rat {
	v, _ := rat.Of(num, den)
	return v
}

// zeros are the integer 0 in all its forms.
func zeros() []api.Int {
	return []api.Int{
		{}, {Neg: true}, {L: []uint32{}}, {L: []uint32{0}},
		{Neg: true, L: []uint32{0}}, {Neg: true, L: []uint32{0, 0, 0}},
	}
}

// zeroPolys are the polynomial zero in many forms.
func zeroPolys() []api.Poly {
	out := []api.Poly{nil, {}, zeros()}
	for _, z := range zeros() {
		out = append(out, api.Poly{z})
	}
	return out
}

// zeroOps are the operator zero in many forms.
func zeroOps() []api.Op {
	out := []api.Op{nil, {}, zeroPolys(), make(api.Op, 300)}
	for _, z := range zeroPolys() {
		out = append(out, api.Op{z})
	}
	return out
}

// wide gives a with highest limbs that are 0; 0 gets a Neg.
func wide(a api.Int) api.Int {
	return api.Int{Neg: a.Neg || limbs.Sign(a) == 0, L: append(slices.Clone(a.L), 0, 0)}
}

// paddedPoly gives p with entries in wide forms, and with zeros at its end.
func paddedPoly(p api.Poly) api.Poly {
	var out api.Poly
	for _, c := range p {
		out = append(out, wide(c))
	}
	return append(out, zeros()...)
}

// padded gives a with entries that are padded, and with zeros at its end.
func padded(a api.Op) api.Op {
	var out api.Op
	for _, q := range a {
		out = append(out, paddedPoly(q))
	}
	return append(out, zeroPolys()...)
}

// raised gives the values not in lowest terms: both parts times a number, each
// time another. What is 0 comes over 0 and over a number below 0, too.
func raised(win []api.Rat) []api.Rat {
	out := make([]api.Rat, len(win))
	for i, v := range win {
		by := []api.Int{limbs.Of(-1), limbs.Of(6), {Neg: true, L: []uint32{0, 0, 5}}}[i%3]
		out[i] = api.Rat{Num: wide(limbs.Mul(v.Num, by)), Den: wide(limbs.Mul(v.Den, by))}
		if limbs.Sign(v.Num) == 0 {
			out[i] = api.Rat{Num: limbs.Of(int64(i)), Den: zeros()[i%len(zeros())]}
		}
	}
	return out
}

// bitsOf gives 2^(n - 1), a number of n bits; 0 for none.
func bitsOf(n int) api.Int {
	out := api.Int{L: make([]uint32, (n+31)/32)}
	if n > 0 {
		out.L[(n-1)/32] = 1 << ((n - 1) % 32)
	}
	return out
}

// opOf is of this order, degree and bits, each of an entry of its own, if there
// are so many; it has no singular number.
func opOf(order, degree, bits int) api.Op {
	out := make(api.Op, order+1)
	out[0] = make(api.Poly, degree+1)
	out[0][degree] = limbs.Of(1)
	out[0][0] = bitsOf(bits)
	if order > 0 {
		out[order] = p(1)
	}
	return out
}

// unrolled gives a window of n values: the first ones, and what the relations
// say of the others; of a free index it is what chance says.
func unrolled(d *rand.Rand, a api.Op, n int) []api.Rat {
	m := modelOf(a, nil)
	r := m.order()
	for k := range n {
		v := big.NewRat(d.Int63n(19)-9, 1+d.Int63n(4))
		if k >= r && !m.isSingular(k-r) {
			v = m.forced(k - r)
		}
		m.win = append(m.win, v)
	}
	var out []api.Rat
	for _, v := range m.win {
		out = append(out, fromBigRat(v))
	}
	return out
}

// forced gives the value at n + r by which the relation at n holds.
func (m model) forced(n int) *big.Rat {
	x, sum := big.NewInt(int64(n)), new(big.Rat)
	for i, p := range m.op[:m.order()] {
		c := new(big.Rat).SetInt(p.at(x))
		sum.Add(sum, c.Mul(c, m.win[n+i]))
	}
	lead := new(big.Rat).SetInt(m.op[m.order()].at(x))
	return sum.Quo(sum.Neg(sum), lead)
}

// randomPoly gives one of at most n small entries.
func randomPoly(d *rand.Rand, n int) api.Poly {
	out := make(api.Poly, d.Intn(n+1))
	for i := range out {
		out[i] = limbs.Of(d.Int63n(9) - 4)
	}
	return out
}

// randomOp gives an operator whose leading entry has roots, often natural ones.
func randomOp(d *rand.Rand, order int) api.Op {
	var out api.Op
	for range order {
		out = append(out, randomPoly(d, 3))
	}
	lead := p(1 + d.Int63n(3))
	for range d.Intn(4) {
		lead = roots.With(lead, limbs.Of(d.Int63n(12)-3))
	}
	if d.Intn(3) == 0 {
		lead = upoly.Mul(lead, p(-3, 2))
	}
	return append(out, lead)
}
