package roots

import (
	"ashlar/api"
	"ashlar/limbs"
	"ashlar/upoly"
)

// root is a root of a polynomial modulo a number, and 1 over its slope there
// modulo the number before that.
type root struct {
	at, inverse api.Int
}

// lift gives for each of p's roots modulo m, which are single, the one integer
// that may be a root of p and leaves it.
func lift(p api.Poly, m prime, found []root) []api.Int {
	slopes := upoly.Deriv(p)
	moduli := powers(m, powerAbove(m, reach(p)+1))
	for i, to := range moduli[1:] {
		from := moduli[i]
		low, high := reduced(slopes, from), reduced(p, to)
		for j := range found {
			found[j].refine(low, from, high, to)
		}
	}
	last := moduli[len(moduli)-1]
	out := make([]api.Int, len(found))
	for i, r := range found {
		out[i] = nearest(r.at, last)
	}
	return out
}

// reach gives a k such that 2^k is above each root of p in size: none is greater
// than twice the greatest of the i-th roots of the i-th entry below the leading
// one, over that one (Fujiwara's bound).
func reach(p api.Poly) int {
	degree := len(p) - 1
	lead := limbs.Bits(p[degree])
	most := 0
	for i, c := range p[:degree] {
		below := degree - i
		if over := limbs.Bits(c) - lead + 1; over > 0 {
			most = max(most, (over+below-1)/below)
		}
	}
	return most + 1
}

// powerAbove gives an n such that m^n is above 2^bits.
func powerAbove(m prime, bits int) int {
	return bits/(limbs.Bits(m.whole())-1) + 1
}

func (m prime) whole() api.Int { return limbs.Of(int64(m.Prime)) }

// powers gives powers of m, from m on to m^n, each at most the square of the one
// before. They are such that the last, on which most work is spent, is not
// greater than it must be.
func powers(m prime, n int) []api.Int {
	if n == 1 {
		return []api.Int{m.whole()}
	}
	out := powers(m, (n+1)/2)
	half := out[len(out)-1]
	next := limbs.Mul(half, half)
	if n%2 == 1 {
		next, _, _ = limbs.Quo(next, m.whole())
	}
	return append(out, next)
}

// refine makes a root modulo from one modulo to (Newton's step). Slopes are known
// modulo from, and entries modulo to.
func (r *root) refine(slopes api.Poly, from api.Int, entries api.Poly, to api.Int) {
	lack := limbs.Sub(limbs.Of(2), limbs.Mul(eval(slopes, r.at, from), r.inverse))
	r.inverse = rest(limbs.Mul(r.inverse, lack), from)
	step := limbs.Mul(eval(entries, r.at, to), r.inverse)
	r.at = rest(limbs.Sub(r.at, step), to)
}

// eval gives p at x modulo m.
func eval(p api.Poly, x, m api.Int) api.Int {
	var z api.Int
	for i := len(p) - 1; i >= 0; i-- {
		z = rest(limbs.Add(limbs.Mul(z, x), p[i]), m)
	}
	return z
}

func reduced(p api.Poly, m api.Int) api.Poly {
	out := make(api.Poly, len(p))
	for i, c := range p {
		out[i] = rest(c, m)
	}
	return out
}

func rest(a, m api.Int) api.Int {
	_, r, _ := limbs.Quo(a, m)
	return r
}

// nearest gives the number nearest to 0 that is a modulo m; a is not below 0 and
// below m.
func nearest(a, m api.Int) api.Int {
	if below := limbs.Sub(a, m); limbs.Cmp(limbs.Add(a, below), api.Int{}) > 0 {
		return below
	}
	return a
}
