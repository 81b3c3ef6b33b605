package euclid

import (
	"slices"

	"ashlar/api"
	"ashlar/limbs"
	"ashlar/ore"
	"ashlar/upoly"
)

// row is an operator with its cofactors: op = s a + t b, a and b being those with
// which the steps start. All are in normal form.
type row struct{ op, s, t api.Op }

// start gives the rows of a and b themselves.
func start(a, b api.Op) (row, row) {
	one := func() api.Op { return api.Op{upoly.Of(1)} }
	return row{op: ore.Norm(a), s: one()}, row{op: ore.Norm(b), t: one()}
}

func (r row) each(f func(a api.Op) api.Op) row {
	return row{op: f(r.op), s: f(r.s), t: f(r.t)}
}

// without gives r and by, whose operators are of one order, each times the other's
// leading entry, one less the other: so the leading entries fall away, and are
// not reckoned at all.
func (r row) without(by row) row {
	n := ore.Order(r.op)
	p, q := by.op[n], r.op[n]
	cross := func(a, b api.Op) api.Op { return ore.Sub(ore.Scale(p, a), ore.Scale(q, b)) }
	return row{op: cross(r.op[:n], by.op[:n]), s: cross(r.s, by.s), t: cross(r.t, by.t)}
}

// primitive gives r over the greatest polynomial that divides its cofactors, and
// so its operator, too; s gets a lead above 0.
func (r row) primitive() row {
	by := content(slices.Concat(r.s, r.t))
	if limbs.Sign(upoly.Lead(ore.Lead(r.s))) < 0 {
		by = upoly.Sub(nil, by)
	}
	if upoly.Eq(by, upoly.Of(1)) {
		return r
	}
	over := func(p api.Poly) api.Poly {
		q, _ := upoly.Exact(p, by)
		return q
	}
	return r.each(func(a api.Op) api.Op { return ore.Each(a, over) })
}

// content gives the greatest common divisor of one polynomial or more. Cofactors
// have great common divisors by twos, where all together have none. What the
// first one shares with a mixture of the others is, but by chance, what it shares
// with all of them: so most often that one divisor is 1, and tells it.
func content(ps []api.Poly) api.Poly {
	one := upoly.Of(1)
	first, others := ps[0], ps[1:]
	g := upoly.Gcd(first, mixture(others))
	for _, p := range others {
		if upoly.Eq(g, one) {
			break
		}
		g = upoly.Gcd(g, p)
	}
	return g
}

// mixture gives a sum in which each polynomial counts another number of times.
func mixture(ps []api.Poly) api.Poly {
	var sum api.Poly
	for i, p := range ps {
		sum = upoly.Add(sum, upoly.Scale(p, limbs.Of(int64(i+1))))
	}
	return sum
}
