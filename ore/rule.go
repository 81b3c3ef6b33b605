package ore

import (
	"math/bits"

	"ashlar/api"
	"ashlar/estimate"
	"ashlar/limbs"
	"ashlar/upoly"
)

// mostPower is the greatest n of Power.
const mostPower = 64

// Rule is an algebra's rule: how its letter goes past a polynomial. A Rule that
// New has not made is read as a nil one.
type Rule struct {
	algebra int
	q       api.Int // of QShift not 0, of the others 0
}

// New gives a rule.
func New(algebra int, q api.Int) (*Rule, api.Errno) {
	switch algebra {
	case api.Shift, api.Diff:
		return &Rule{algebra: algebra}, api.OK
	case api.QShift:
		if limbs.Sign(q) == 0 {
			return nil, api.ErrZero
		}
		return &Rule{algebra: algebra, q: own(q)}, api.OK
	}
	return nil, api.ErrKind
}

// Algebra tells which algebra it is.
func (r *Rule) Algebra() int {
	if r == nil {
		return 0
	}
	return r.algebra
}

// Q tells q.
func (r *Rule) Q() api.Int {
	if r == nil {
		return api.Int{}
	}
	return own(r.q)
}

// Sigma is one map.
func (r *Rule) Sigma(p api.Poly) api.Poly {
	switch r.Algebra() {
	case api.Shift:
		return upoly.Shift(p, limbs.Of(1))
	case api.Diff:
		return upoly.Norm(p)
	case api.QShift:
		return dilate(p, r.q)
	}
	return nil
}

// Delta is the other one.
func (r *Rule) Delta(p api.Poly) api.Poly {
	if r.Algebra() == api.Diff {
		return upoly.Deriv(p)
	}
	return nil
}

// Mul multiplies.
func (r *Rule) Mul(a, b api.Op) (api.Op, api.Errno) {
	if r.Algebra() == 0 {
		return nil, api.ErrArg
	}
	if estimate.Mul(size(a), size(b), limbs.Bits(r.q)) > api.MaxBits {
		return nil, api.ErrBig
	}
	return product(a, b, r.Sigma, r.Delta), api.OK
}

// Power gives a^n.
func (r *Rule) Power(a api.Op, n int) (api.Op, api.Errno) {
	if r.Algebra() == 0 || n < 0 || n > mostPower {
		return nil, api.ErrArg
	}
	if n == 0 {
		return api.Op{upoly.Of(1)}, api.OK
	}
	out, e := Norm(a), api.OK
	for range n - 1 {
		if out, e = r.Mul(out, a); e != api.OK {
			return nil, e
		}
	}
	return out, api.OK
}

// Apply gives a on a polynomial.
func (r *Rule) Apply(a api.Op, f api.Poly) (api.Poly, api.Errno) {
	if r.Algebra() == 0 {
		return nil, api.ErrArg
	}
	if estimate.Apply(size(a), upoly.Deg(f), upoly.Bits(f), limbs.Bits(r.q)) > api.MaxBits {
		return nil, api.ErrBig
	}
	letter := r.Sigma
	if r.algebra == api.Diff {
		letter = r.Delta
	}
	var out api.Poly
	for i, c := range trim(a) {
		if i > 0 {
			f = letter(f)
		}
		out = upoly.Add(out, upoly.Mul(c, f))
	}
	return out, api.OK
}

// size gives what an estimate looks at.
func size(a api.Op) api.Size { return estimate.Size(Order(a), Degree(a), Bits(a)) }

// product gives a b by a rule.
func product(a, b api.Op, sigma, delta func(p api.Poly) api.Poly) api.Op {
	var out api.Op
	for i, c := range trim(a) {
		if i > 0 {
			b = letterTimes(b, sigma, delta)
		}
		out = Add(out, Scale(c, b))
	}
	return out
}

// letterTimes gives X b, X being the power letter.
func letterTimes(b api.Op, sigma, delta func(p api.Poly) api.Poly) api.Op {
	raised := append(api.Op{nil}, Each(b, sigma)...)
	return Add(raised, Each(b, delta))
}

// dilate gives p(q x).
func dilate(p api.Poly, q api.Int) api.Poly {
	out := make(api.Poly, upoly.Deg(p)+1)
	power, at := limbs.Of(1), 0
	for i, c := range upoly.Terms(p) {
		power = limbs.Mul(power, raise(q, i-at))
		at = i
		out[i] = limbs.Mul(c, power)
	}
	return out
}

// raise gives a^n. (limbs.Power refuses what is above MaxBits; Sigma does not.)
func raise(a api.Int, n int) api.Int {
	out := limbs.Of(1)
	for i := bits.Len(uint(n)) - 1; i >= 0; i-- {
		out = limbs.Mul(out, out)
		if n>>i&1 == 1 {
			out = limbs.Mul(out, a)
		}
	}
	return out
}

// own gives the normal form of a in memory of its own.
func own(a api.Int) api.Int { return limbs.Add(a, api.Int{}) }
