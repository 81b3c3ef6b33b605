package ore_test

import (
	"math/big"
	"math/rand"
	"slices"
	"testing"

	"ashlar/api"
	"ashlar/limbs"
	"ashlar/ore"
	"ashlar/upoly"
)

func p(ns ...int64) api.Poly { return upoly.Of(ns...) }

// zeros are the integer 0 in all its forms.
func zeros() []api.Int {
	return []api.Int{
		{}, {Neg: true}, {L: []uint32{}}, {L: []uint32{0}},
		{Neg: true, L: []uint32{0}}, {Neg: true, L: []uint32{0, 0, 0}},
	}
}

// zeroPolys are the polynomial zero in many forms.
func zeroPolys() []api.Poly {
	out := []api.Poly{nil, {}, zeros()}
	for _, z := range zeros() {
		out = append(out, api.Poly{z})
	}
	return out
}

// zeroOps are the operator zero in many forms.
func zeroOps() []api.Op {
	out := []api.Op{nil, {}, zeroPolys()}
	for _, z := range zeroPolys() {
		out = append(out, api.Op{z})
	}
	return out
}

// wide gives a with highest limbs that are 0; 0 gets a Neg.
func wide(a api.Int) api.Int {
	return api.Int{Neg: a.Neg || limbs.Sign(a) == 0, L: append(slices.Clone(a.L), 0, 0)}
}

// paddedPoly gives p with entries in wide forms, and with zeros at its end.
func paddedPoly(p api.Poly) api.Poly {
	var out api.Poly
	for _, c := range p {
		out = append(out, wide(c))
	}
	return append(out, zeros()...)
}

// padded gives a with entries that are padded, and with zeros at its end.
func padded(a api.Op) api.Op {
	var out api.Op
	for _, q := range a {
		out = append(out, paddedPoly(q))
	}
	return append(out, zeroPolys()...)
}

// bitsOf gives 2^(n - 1), a number of n bits.
func bitsOf(n int) api.Int {
	out := api.Int{L: make([]uint32, (n+31)/32)}
	out.L[(n-1)/32] = 1 << ((n - 1) % 32)
	return out
}

// sizedPoly is of this degree and these bits, of which the lowest entry is, if
// there are two.
func sizedPoly(degree, bits int) api.Poly {
	out := make(api.Poly, degree+1)
	out[degree] = limbs.Of(-1)
	out[0] = bitsOf(bits)
	return out
}

// sized is of this order, degree and bits, each of an entry of its own, if there
// are so many.
func sized(order, degree, bits int) api.Op {
	out := make(api.Op, order+1)
	out[order] = p(1)
	out[order/2] = sizedPoly(0, bits)
	if order == 0 {
		out[0] = sizedPoly(degree, bits)
	} else if degree > 0 {
		out[0] = upoly.Add(out[0], sizedPoly(degree, 1))
	}
	return out
}

// randomPoly gives a polynomial of at most n entries of at most so many bits;
// some are zero, and some in a form that is not normal.
func randomPoly(d *rand.Rand, n, bits int) api.Poly {
	q := make(api.Poly, d.Intn(n+1))
	for i := range q {
		c := new(big.Int).Rand(d, new(big.Int).Lsh(big.NewInt(1), uint(bits)))
		q[i] = fromBig(c)
		q[i].Neg = d.Intn(2) == 0
	}
	if d.Intn(4) == 0 {
		return paddedPoly(q)
	}
	return q
}

func random(d *rand.Rand, rows, n, bits int) api.Op {
	var out api.Op
	for range rows {
		out = append(out, randomPoly(d, n, bits))
	}
	return out
}

// plain are operators that are written out.
func plain() []api.Op {
	great := fromBig(new(big.Int).Lsh(big.NewInt(-5), 90))
	return []api.Op{
		{p(1)}, {p(-3)}, {p(0, 1)}, {p(1, 1)}, {p(2, 0, -1)}, {nil, p(1)}, {nil, p(-1)}, {p(0, 4), p(0, 2)}, {p(-1), p(1)},
		{nil, nil, p(1)}, {nil, nil, p(0, 3)}, {p(0, 1), nil, nil, p(-2, 1)}, {p(1), p(0, -1), p(0, 0, 1)}, {p(-1, 0, 0, 2), nil, p(5), nil, p(0, 7)},
		{{great, limbs.Of(1)}, nil, {limbs.Of(-1), great}}, {nil, p(6, -4, 0, 2)},
	}
}

// samples are operators in many forms.
func samples() []api.Op {
	out := append(plain(), zeroOps()...)
	for _, a := range plain() {
		out = append(out, padded(a))
	}
	d := rand.New(rand.NewSource(8))
	for rows := 1; rows <= 5; rows++ {
		for _, bits := range []int{1, 3, 33, 80} {
			out = append(out, random(d, rows, 1+d.Intn(5), bits))
		}
	}
	return out
}

// polys are polynomials in many forms.
func polys() []api.Poly {
	out := append(zeroPolys(), p(1), p(-1), p(0, 1), p(0, 0, 1), p(0, 0, 0, 1), p(3, -2, 0, 5), p(-7, 0, 0, 0, 0, 2))
	out = append(out, paddedPoly(p(1, 2, 3)), paddedPoly(p(0, 0, 0, 0, -1)), api.Poly{limbs.Of(4), bitsOf(100), bitsOf(65)})
	d := rand.New(rand.NewSource(88))
	for _, n := range []int{3, 8, 12} {
		out = append(out, randomPoly(d, n, 70))
	}
	return out
}

// qs are numbers that are not 0, in many forms.
func qs() []api.Int {
	out := []api.Int{{L: []uint32{0, 0, 1}}, {Neg: true, L: []uint32{1, 2, 3}}, {L: []uint32{1<<32 - 1, 1<<32 - 1}}}
	for _, n := range []int64{1, -1, 2, -2, 3, -5, 1 << 31, 1<<32 - 1, -1 << 32, 1<<40 + 7} {
		out = append(out, limbs.Of(n), wide(limbs.Of(n)))
	}
	return out
}

// kinds are of all algebras; those beside QShift are handed a q, too.
func kinds() []kind {
	out := []kind{{api.Shift, api.Int{}}, {api.Shift, limbs.Of(7)}, {api.Diff, api.Int{}}, {api.Diff, wide(limbs.Of(-3))}}
	for _, q := range qs() {
		out = append(out, kind{api.QShift, q})
	}
	return out
}

// few are one kind of each algebra.
func few() []kind {
	return []kind{{api.Shift, api.Int{}}, {api.Diff, api.Int{}}, {api.QShift, limbs.Of(-2)}}
}

func ruleOf(t *testing.T, k kind) *ore.Rule {
	t.Helper()
	r, e := ore.New(k.algebra, k.q)
	if e != api.OK || r == nil {
		t.Fatalf("P8.1: New of %v: %v, error %d", k, r, e)
	}
	return r
}
