package gauge_test

import (
	"math/rand"
	"slices"

	"ashlar/api"
	"ashlar/limbs"
	"ashlar/upoly"
)

func p(ns ...int64) api.Poly { return upoly.Of(ns...) }

// zeros are the integer 0 in all its forms.
func zeros() []api.Int {
	return []api.Int{
		{}, {Neg: true}, {L: []uint32{}}, {L: []uint32{0}},
		{Neg: true, L: []uint32{0}}, {Neg: true, L: []uint32{0, 0, 0}},
	}
}

// zeroPolys are the polynomial zero in many forms.
func zeroPolys() []api.Poly {
	out := []api.Poly{nil, {}, zeros()}
	for _, z := range zeros() {
		out = append(out, api.Poly{z})
	}
	return out
}

// zeroOps are the operator zero in many forms.
func zeroOps() []api.Op {
	out := []api.Op{nil, {}, zeroPolys()}
	for _, z := range zeroPolys() {
		out = append(out, api.Op{z})
	}
	return out
}

// wide gives a with highest limbs that are 0; 0 gets a Neg.
func wide(a api.Int) api.Int {
	return api.Int{Neg: a.Neg || limbs.Sign(a) == 0, L: append(slices.Clone(a.L), 0, 0)}
}

// paddedPoly gives p with entries in wide forms, and with zeros at its end.
func paddedPoly(p api.Poly) api.Poly {
	var out api.Poly
	for _, c := range p {
		out = append(out, wide(c))
	}
	return append(out, zeros()...)
}

// padded gives a with entries that are padded, and with zeros at its end.
func padded(a api.Op) api.Op {
	var out api.Op
	for _, q := range a {
		out = append(out, paddedPoly(q))
	}
	return append(out, zeroPolys()...)
}

// bitsOf gives 2^(n - 1), a number of n bits; 0 for none.
func bitsOf(n int) api.Int {
	out := api.Int{L: make([]uint32, (n+31)/32)}
	if n > 0 {
		out.L[(n-1)/32] = 1 << ((n - 1) % 32)
	}
	return out
}

// polyOf is of this degree and these bits, of which the lowest entry is, if
// there are two; zero for a degree of -1.
func polyOf(degree, bits int) api.Poly {
	out := make(api.Poly, degree+1)
	if degree >= 0 {
		out[degree] = limbs.Of(-1)
		out[0] = bitsOf(bits)
	}
	return out
}

// opOf is of this order, degree and bits, each of an entry of its own, if there
// are so many.
func opOf(order, degree, bits int) api.Op {
	out := make(api.Op, order+1)
	if order < 0 {
		return out
	}
	out[order] = p(1)
	out[order/2] = polyOf(0, bits)
	if order == 0 {
		out[0] = polyOf(degree, bits)
	} else if degree > 0 {
		out[0] = upoly.Add(out[0], polyOf(degree, 1))
	}
	return out
}

// ratOf is a rational of so many bits, 2 or more, in lowest terms.
func ratOf(bits int) api.Rat { return api.Rat{Num: limbs.Neg(bitsOf(bits - 1)), Den: limbs.Of(1)} }

// raised gives v not in lowest terms: both parts times a number.
func raised(v api.Rat, by api.Int) api.Rat {
	return api.Rat{Num: wide(limbs.Mul(v.Num, by)), Den: wide(limbs.Mul(v.Den, by))}
}

// randomPoly gives a polynomial of at most n entries of at most so many limbs;
// some are zero, and some in a form that is not normal.
func randomPoly(d *rand.Rand, n, limbs int) api.Poly {
	q := make(api.Poly, d.Intn(n+1))
	for i := range q {
		for range d.Intn(limbs + 1) {
			q[i].L = append(q[i].L, d.Uint32()>>d.Intn(32))
		}
		q[i].Neg = d.Intn(2) == 0
	}
	if d.Intn(4) == 0 {
		return paddedPoly(q)
	}
	return q
}

// ops are operators in many forms.
func ops() []api.Op {
	plain := []api.Op{
		{p(1)}, {p(-3)}, {p(0, 1)}, {p(1, 1)}, {p(2, 0, -1)}, {nil, p(1)}, {p(0, 4), p(0, 2)},
		{nil, nil, p(0, 3)}, {p(0, 1), nil, nil, p(-2, 1)}, {p(-1, 0, 0, 2), nil, p(5), nil, p(0, 7)},
		opOf(4, 3, 100), opOf(0, 9, 64), opOf(9, 0, 33), {bitsPoly(31), nil, bitsPoly(32), bitsPoly(33)},
	}
	out := append(zeroOps(), plain...)
	for _, a := range plain {
		out = append(out, padded(a))
	}
	d := rand.New(rand.NewSource(9))
	for rows := 1; rows <= 6; rows++ {
		var a api.Op
		for range rows {
			a = append(a, randomPoly(d, 5, 4))
		}
		out = append(out, a)
	}
	return out
}

func bitsPoly(bits int) api.Poly { return api.Poly{bitsOf(bits)} }

// polys are polynomials in many forms.
func polys() []api.Poly {
	out := append(zeroPolys(), p(1), p(-1), p(0, 1), p(0, 0, 1), p(3, -2, 0, 5), paddedPoly(p(1, 2, 3)), paddedPoly(p(0, 0, 0, 0, -1)))
	return append(out, polyOf(0, 32), polyOf(0, 33), polyOf(5, 100), api.Poly{limbs.Of(4), bitsOf(100), bitsOf(65)})
}

// qs are numbers in many forms: 0, small ones, and some of several limbs.
func qs() []api.Int {
	out := append(zeros(), api.Int{L: []uint32{0, 0, 1}}, api.Int{Neg: true, L: []uint32{1, 2, 3}}, api.Int{L: []uint32{1<<32 - 1, 1<<32 - 1, 0}})
	for _, n := range []int64{1, -1, 2, -5, 1<<32 - 1, -1 << 32} {
		out = append(out, limbs.Of(n), wide(limbs.Of(n)))
	}
	return out
}

// rats are rationals in many forms.
func rats() []api.Rat {
	out := []api.Rat{ratOf(2), ratOf(3), ratOf(70), {Num: limbs.Of(7), Den: limbs.Of(-12)}, {Num: limbs.Of(6), Den: limbs.Of(4)}}
	for _, z := range zeros() {
		out = append(out, api.Rat{Num: z, Den: limbs.Of(1)}, api.Rat{Num: bitsOf(200), Den: z}, api.Rat{Num: z, Den: z}, api.Rat{Num: z, Den: limbs.Neg(bitsOf(200))})
	}
	for _, v := range out[:5] {
		for _, by := range []api.Int{limbs.Of(-1), limbs.Of(30), bitsOf(150), limbs.Neg(bitsOf(33))} {
			out = append(out, raised(v, by))
		}
	}
	return out
}

// windows are lists of rationals, of all lengths up to that of rats and longer.
func windows() [][]api.Rat {
	all := rats()
	out := [][]api.Rat{nil, {}, all, slices.Concat(all, all, all), make([]api.Rat, 1), make([]api.Rat, 5000)}
	for i, v := range all {
		out = append(out, []api.Rat{v}, all[i:min(i+3, len(all))])
	}
	backward := slices.Clone(all)
	slices.Reverse(backward)
	return append(out, backward)
}

// fewWindows are some of them, for calls with two.
func fewWindows() [][]api.Rat {
	all := rats()
	return [][]api.Rat{nil, {}, {all[0]}, {api.Rat{}}, {all[2], all[1]}, {raised(all[3], bitsOf(90))}, all, make([]api.Rat, 60)}
}
