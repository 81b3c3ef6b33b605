package ratfun_test

import (
	"math/big"
	"math/rand"
	"slices"

	"ashlar/api"
	"ashlar/limbs"
	"ashlar/upoly"
)

// zeros are the integer 0 in all its forms.
func zeros() []api.Int {
	return []api.Int{
		{}, {Neg: true}, {L: []uint32{}}, {L: []uint32{0}},
		{Neg: true, L: []uint32{0}}, {Neg: true, L: []uint32{0, 0, 0}},
	}
}

// zeroForms are the polynomial zero in many forms.
func zeroForms() []api.Poly {
	out := []api.Poly{nil, {}, zeros()}
	for _, z := range zeros() {
		out = append(out, api.Poly{z})
	}
	return out
}

// padded gives the same number with highest limbs that are 0; 0 gets a Neg.
func padded(a api.Int) api.Int {
	return api.Int{Neg: a.Neg || len(a.L) == 0, L: append(slices.Clone(a.L), 0, 0)}
}

// paddedPoly gives p with zeros at its end, and each entry padded.
func paddedPoly(p api.Poly) api.Poly {
	var out api.Poly
	for _, c := range p {
		out = append(out, padded(c))
	}
	return append(out, zeros()...)
}

// forms gives f in several forms, f being in one whose Den is not zero: as it is,
// with zeros at all ends, and with Num and Den times the same polynomial.
func forms(f api.Fun) []api.Fun {
	out := []api.Fun{f, {Num: paddedPoly(f.Num), Den: paddedPoly(f.Den)}}
	for _, by := range []api.Poly{upoly.Of(-1), upoly.Of(6), upoly.Of(-1, 1), upoly.Of(4, 0, -10)} {
		wide := api.Fun{Num: upoly.Mul(f.Num, by), Den: upoly.Mul(f.Den, by)}
		out = append(out, wide, api.Fun{Num: paddedPoly(wide.Num), Den: wide.Den})
	}
	return out
}

// zeroFuns are the function 0 in many forms: zero over something, and whatever
// over zero.
func zeroFuns() []api.Fun {
	out := []api.Fun{{}}
	for _, z := range zeroForms() {
		for _, p := range []api.Poly{upoly.Of(1), upoly.Of(-4), upoly.Of(0, 2), upoly.Of(3, 0, -6), z} {
			out = append(out, api.Fun{Num: z, Den: p}, api.Fun{Num: p, Den: z})
		}
	}
	return out
}

func random(d *rand.Rand, n, most int) api.Poly {
	p := make(api.Poly, n)
	for i := range p {
		p[i].Neg = d.Intn(2) == 0
		for range d.Intn(most + 1) {
			p[i].L = append(p[i].L, d.Uint32())
		}
	}
	return p
}

// polys are polynomials at the edges, with many factors in common.
func polys() []api.Poly {
	return []api.Poly{
		nil, paddedPoly(nil), upoly.Of(1), upoly.Of(-1), upoly.Of(6), paddedPoly(upoly.Of(-4)),
		upoly.Of(0, 1), upoly.Of(0, -2), upoly.Of(0, 0, 9), upoly.Of(1, 1), paddedPoly(upoly.Of(2, 2)),
		upoly.Of(-1, 1), upoly.Of(1, -1), upoly.Of(-1, 0, 1), upoly.Of(6, 0, -6), upoly.Of(1, -2, 1),
		upoly.Of(-3, 2), upoly.Of(-1, 0, 0, 1), paddedPoly(upoly.Of(0, -4, 0, 4)), upoly.Of(1, 0, 1),
		{fromBig(new(big.Int).Exp(big.NewInt(10), big.NewInt(40), nil)), limbs.Of(-1)},
		{limbs.Of(12), fromBig(new(big.Int).Lsh(big.NewInt(-6), 64)), limbs.Of(1 << 40)},
	}
}

// few are functions at the edges, in normal form and in others.
func few() []api.Fun {
	one, linear, square := upoly.Of(1), upoly.Of(-1, 1), upoly.Of(-1, 0, 1)
	out := []api.Fun{
		{}, {Num: one}, {Num: linear, Den: zeros()}, {Den: paddedPoly(square)},
		{Num: one, Den: one}, {Num: upoly.Of(6), Den: upoly.Of(4)}, {Num: upoly.Of(-6), Den: upoly.Of(-9)},
		{Num: upoly.Of(5), Den: upoly.Of(-7)}, {Num: one, Den: upoly.Of(0, 2)}, {Num: upoly.Of(0, -3), Den: one},
		{Num: one, Den: upoly.Of(1, 1)}, {Num: upoly.Of(2, 2), Den: square}, {Num: linear, Den: upoly.Of(1, 0, -1)},
		{Num: square, Den: linear}, {Num: upoly.Of(0, 1), Den: upoly.Of(0, 1)}, {Num: upoly.Of(1, 0, 1), Den: upoly.Of(-2, 0, 6)},
		{Num: paddedPoly(upoly.Of(0, 4)), Den: paddedPoly(upoly.Of(0, 0, -6))},
	}
	d := rand.New(rand.NewSource(5))
	for i := range 6 {
		by := random(d, 1+i/2, 1)
		num, den := random(d, 1+i, 1+i/2), random(d, 6-i, 1+i/3)
		out = append(out, api.Fun{Num: upoly.Mul(num, by), Den: upoly.Mul(den, by)})
	}
	return out
}

func eachPair(f func(f, g api.Fun)) {
	for _, a := range few() {
		for _, b := range few() {
			f(a, b)
		}
	}
}

// places are integers at which functions are told: some are zeros of a Den of
// few, some of Num and Den both.
func places() []api.Int {
	out := append(zeros(), padded(limbs.Of(-7)), padded(limbs.Of(1)))
	for _, s := range []string{"1", "-1", "2", "-2", "7", "4294967296", "-18446744073709551615", "99999999999999999999999999999"} {
		a, _ := limbs.Read(s)
		out = append(out, a)
	}
	return out
}
