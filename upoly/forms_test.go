package upoly_test

import (
	"fmt"
	"math/big"
	"math/rand"
	"slices"
	"testing"

	"ashlar/api"
	"ashlar/limbs"
	"ashlar/upoly"
)

// The oracle of these tests is math/big, which the program itself may not use:
// polynomials are lists of *big.Int, the last not 0.

type bigPoly []*big.Int

func bigInt(a api.Int) *big.Int {
	x := new(big.Int)
	for _, w := range slices.Backward(a.L) {
		x.Lsh(x, 32).Or(x, big.NewInt(int64(w)))
	}
	if a.Neg {
		x.Neg(x)
	}
	return x
}

func fromBig(x *big.Int) api.Int {
	a, e := limbs.Read(x.String())
	if e != api.OK {
		panic("no number: " + x.String())
	}
	return a
}

func parse(s string) api.Int {
	a, e := limbs.Read(s)
	if e != api.OK {
		panic("no number: " + s)
	}
	return a
}

func cut(p bigPoly) bigPoly {
	for len(p) > 0 && p[len(p)-1].Sign() == 0 {
		p = p[:len(p)-1]
	}
	return p
}

func toBig(p api.Poly) bigPoly {
	out := bigPoly{}
	for _, c := range p {
		out = append(out, bigInt(c))
	}
	return cut(out)
}

func polyOf(p bigPoly) api.Poly {
	var out api.Poly
	for _, c := range p {
		out = append(out, fromBig(c))
	}
	return out
}

func zeroes(n int) bigPoly {
	out := make(bigPoly, n)
	for i := range out {
		out[i] = new(big.Int)
	}
	return out
}

func bigAdd(p, q bigPoly) bigPoly {
	out := zeroes(max(len(p), len(q)))
	for i, c := range p {
		out[i].Add(out[i], c)
	}
	for i, c := range q {
		out[i].Add(out[i], c)
	}
	return cut(out)
}

func bigMul(p, q bigPoly) bigPoly {
	out := zeroes(len(p) + len(q))
	for i, a := range p {
		for j, b := range q {
			out[i+j].Add(out[i+j], new(big.Int).Mul(a, b))
		}
	}
	return cut(out)
}

func bigScale(p bigPoly, a *big.Int) bigPoly { return bigMul(p, bigPoly{a}) }

// bigInto gives p(q).
func bigInto(p, q bigPoly) bigPoly {
	out := bigPoly{}
	for _, c := range slices.Backward(p) {
		out = bigAdd(bigMul(out, q), cut(bigPoly{c}))
	}
	return out
}

func bigContent(p bigPoly) *big.Int {
	g := new(big.Int)
	for _, c := range p {
		g.GCD(nil, nil, g, new(big.Int).Abs(c))
	}
	return g
}

// isNormal tells whether an answer is in normal form.
func isNormal(a api.Int) bool {
	if len(a.L) == 0 {
		return !a.Neg
	}
	return a.L[len(a.L)-1] != 0
}

// isInt tells whether an answer is a number, in normal form.
func isInt(got api.Int, want *big.Int) bool { return isNormal(got) && bigInt(got).Cmp(want) == 0 }

// expect tells whether an answer is a polynomial, in normal form.
func expect(t *testing.T, what string, got api.Poly, want bigPoly) {
	t.Helper()
	want = cut(want)
	same := len(got) == len(want)
	for i := range want {
		same = same && isInt(got[i], want[i])
	}
	if !same {
		t.Errorf("%s: %v, not %v", what, got, want)
	}
}

// expectOf is expect for small entries.
func expectOf(t *testing.T, what string, got api.Poly, want ...int64) {
	t.Helper()
	out := bigPoly{}
	for _, n := range want {
		out = append(out, big.NewInt(n))
	}
	expect(t, what, got, out)
}

func name(p api.Poly) string { return fmt.Sprint(toBig(p)) }

// zeros are the integer 0 in all its forms.
func zeros() []api.Int {
	return []api.Int{
		{}, {Neg: true}, {L: []uint32{}}, {L: []uint32{0}},
		{Neg: true, L: []uint32{0}}, {Neg: true, L: []uint32{0, 0, 0}},
	}
}

// padded gives the same number with highest limbs that are 0; 0 gets a Neg.
func padded(a api.Int) api.Int {
	return api.Int{Neg: a.Neg || len(a.L) == 0, L: append(slices.Clone(a.L), 0, 0)}
}

// forms gives p in several forms; p is in normal form.
func forms(p api.Poly) []api.Poly {
	var high api.Poly
	for _, c := range p {
		high = append(high, padded(c))
	}
	return []api.Poly{p, high, append(slices.Clone(p), zeros()...), append(slices.Clone(high), zeros()...)}
}

// zeroForms are the polynomial zero in many forms.
func zeroForms() []api.Poly {
	out := []api.Poly{nil, {}, zeros()}
	for _, z := range zeros() {
		out = append(out, api.Poly{z})
	}
	return out
}

func random(d *rand.Rand, n, most int) api.Poly {
	p := make(api.Poly, n)
	for i := range p {
		p[i].Neg = d.Intn(2) == 0
		for range d.Intn(most + 1) {
			p[i].L = append(p[i].L, d.Uint32())
		}
	}
	return p
}

// samples are polynomials at the edges, in normal form and in others.
func samples() []api.Poly {
	out := []api.Poly{nil, {{Neg: true}}, zeros()}
	few := []api.Poly{
		upoly.Of(1), upoly.Of(-1), upoly.Of(6), upoly.Of(0, 1), upoly.Of(1, 1), upoly.Of(-3, 2), upoly.Of(6, -4),
		upoly.Of(-1, 0, 1), upoly.Of(0, 0, -9, 12), upoly.Of(1, 2, 3, 4), upoly.Of(4, 4, 1), upoly.Of(-5, 1000000007, 3),
		{parse("18446744073709551616"), {}, parse("-4294967295")},
		{parse("-4294967296"), parse("340282366920938463463374607431768211455")},
	}
	for i, p := range few {
		fs := forms(p)
		out = append(out, fs[i%len(fs)], fs[(i+2)%len(fs)])
	}
	d := rand.New(rand.NewSource(7))
	for i := range 6 {
		out = append(out, random(d, 2+3*i, 1+i))
	}
	return out
}

func eachPair(f func(p, q api.Poly)) {
	ps := samples()
	for _, p := range ps {
		for _, q := range ps {
			f(p, q)
		}
	}
}
