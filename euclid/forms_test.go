package euclid_test

import (
	"math/rand"
	"slices"
	"testing"

	"ashlar/api"
	"ashlar/limbs"
	"ashlar/ore"
	"ashlar/upoly"
)

func p(ns ...int64) api.Poly { return upoly.Of(ns...) }

// zeros are the integer 0 in all its forms.
func zeros() []api.Int {
	return []api.Int{
		{}, {Neg: true}, {L: []uint32{}}, {L: []uint32{0}},
		{Neg: true, L: []uint32{0}}, {Neg: true, L: []uint32{0, 0, 0}},
	}
}

// zeroPolys are the polynomial zero in many forms.
func zeroPolys() []api.Poly {
	out := []api.Poly{nil, {}, zeros()}
	for _, z := range zeros() {
		out = append(out, api.Poly{z})
	}
	return out
}

// zeroOps are the operator zero in many forms.
func zeroOps() []api.Op {
	out := []api.Op{nil, {}, zeroPolys(), make(api.Op, 3000)}
	for _, z := range zeroPolys() {
		out = append(out, api.Op{z})
	}
	return out
}

// wide gives a with highest limbs that are 0; 0 gets a Neg.
func wide(a api.Int) api.Int {
	return api.Int{Neg: a.Neg || limbs.Sign(a) == 0, L: append(slices.Clone(a.L), 0, 0)}
}

// padded gives a with entries in wide forms, zeros at their ends, and zeros at its
// own end.
func padded(a api.Op) api.Op {
	var out api.Op
	for _, q := range a {
		var wider api.Poly
		for _, c := range q {
			wider = append(wider, wide(c))
		}
		out = append(out, append(wider, zeros()...))
	}
	return append(out, zeroPolys()...)
}

// bitsOf gives 2^(n - 1), a number of n bits.
func bitsOf(n int) api.Int {
	out := api.Int{L: make([]uint32, (n+31)/32)}
	out.L[(n-1)/32] = 1 << ((n - 1) % 32)
	return out
}

// size is that of an operator: order, degree, bits.
type size struct{ order, degree, bits int }

// op gives an operator of this size, dense, all its numbers of so many bits; zero,
// if there are no bits.
func (s size) op(seed int64) api.Op {
	if s.bits == 0 {
		return zeroOps()[2]
	}
	d := rand.New(rand.NewSource(seed))
	out := make(api.Op, s.order+1)
	for i := range out {
		out[i] = make(api.Poly, s.degree+1)
		for j := range out[i] {
			c := bitsOf(s.bits)
			for n := range c.L {
				c.L[n] |= d.Uint32() >> (32 - min(32, s.bits-32*n))
			}
			c.Neg = d.Intn(2) == 0
			out[i][j] = c
		}
	}
	return out
}

// random gives an operator of at most n rows whose numbers have at most so many
// bits; many entries are zero, and some are in a form that is not normal.
func random(d *rand.Rand, n, degree, bits int) api.Op {
	out := make(api.Op, 1+d.Intn(n))
	for i := range out {
		for range d.Intn(degree + 2) {
			c := limbs.Of(d.Int63() >> (63 - min(bits, 63)))
			c.Neg = d.Intn(2) == 0
			out[i] = append(out[i], c)
		}
	}
	if d.Intn(4) == 0 {
		return padded(out)
	}
	return out
}

// plain are operators that are written out, of the orders 0 to 4.
func plain() []api.Op {
	return []api.Op{
		{p(1)}, {p(-3)}, {p(0, 1)}, {p(2, 0, -1)}, {p(0, 6, 4)},
		{nil, p(1)}, {nil, p(0, -2)}, {p(-1), p(1)}, {p(0, -1), p(1)}, {p(-1, -1), p(0, 1)}, {p(3), p(0, 0, 1)}, {p(0, 4), p(0, 2)}, {p(-7), p(1, 1)},
		{nil, nil, p(1)}, {p(-1), nil, p(1)}, {p(1), p(-2), p(1)}, {p(-1), p(-1), p(1)}, {p(1, 1), p(0, 2), p(1)}, {p(0, 1), p(1), p(1, 1)}, {nil, p(1, 0, 1), p(0, -5)},
		{p(0, 1), nil, nil, p(-2, 1)}, {p(5), p(0, 0, -1), p(2), p(3)}, {p(-1, 0, 2), nil, p(5), nil, p(0, 7)},
	}
}

// samples are operators in many forms, none of them zero.
func samples() []api.Op {
	out := plain()
	for i, a := range plain() {
		if i%3 == 0 {
			out = append(out, padded(a))
		}
	}
	d := rand.New(rand.NewSource(10))
	for len(out) < 50 {
		if a := random(d, 4, 3, []int{1, 3, 12, 40}[d.Intn(4)]); ore.Order(a) >= 0 {
			out = append(out, a)
		}
	}
	return out
}

// samplePairs are pairs of samples; of the many q each pair meets some.
func samplePairs(k kind) [][2]api.Op {
	var out [][2]api.Op
	for i, a := range samples() {
		for j, b := range samples() {
			if limbs.Sign(k.q) == 0 || (i+j+limbs.Bits(k.q))%3 == 0 {
				out = append(out, [2]api.Op{a, b})
			}
		}
	}
	return out
}

// kinds are of all algebras; those beside QShift are handed a q, too.
func kinds() []kind {
	out := []kind{{api.Shift, api.Int{}}, {api.Shift, limbs.Of(7)}, {api.Diff, api.Int{}}, {api.Diff, wide(limbs.Of(-3))}}
	for _, q := range []int64{1, -1, 2, -2, 3, 1<<33 + 1} {
		out = append(out, kind{api.QShift, limbs.Of(q)})
	}
	return append(out, kind{api.QShift, wide(limbs.Of(-5))})
}

// few are one kind of each algebra.
func few() []kind {
	return []kind{{api.Shift, api.Int{}}, {api.Diff, api.Int{}}, {api.QShift, limbs.Of(-2)}}
}

func ruleOf(t *testing.T, k kind) *ore.Rule {
	t.Helper()
	r, e := ore.New(k.algebra, k.q)
	if e != api.OK || r == nil {
		t.Fatalf("P8.1: New of %v: %v, error %d", k, r, e)
	}
	return r
}

// algebra is a rule that is tested, with what it was made of.
type algebra struct {
	kind
	rule *ore.Rule
	t    *testing.T
	// refused counts the products that ore refuses.
	refused int
}

func algebraOf(t *testing.T, k kind) *algebra {
	t.Helper()
	return &algebra{kind: k, rule: ruleOf(t, k), t: t}
}

// mul multiplies by ore's product, and by math/big where that refuses.
func (x *algebra) mul(a, b api.Op) api.Op {
	x.t.Helper()
	out, e := x.rule.Mul(a, b)
	switch e {
	case api.OK:
		return out
	case api.ErrBig:
		x.refused++
		return fromBigOp(x.product(toBigOp(a), toBigOp(b)))
	}
	x.t.Fatalf("P8.2: Mul of %s and %s: error %d", name(a), name(b), e)
	return nil
}
