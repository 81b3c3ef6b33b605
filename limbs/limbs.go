// Package limbs: big integers: see doc/01-limbs.md.
package limbs

import (
	"cmp"
	"math"
	"math/bits"

	"ashlar/api"
)

// Of gives a number.
func Of(n int64) api.Int {
	if n < 0 {
		// -n would wrap at -2^63; n + 1 does not.
		return number(true, words(uint64(-(n+1))+1))
	}
	return number(false, words(uint64(n)))
}

// Small gives a number that fits.
func Small(a api.Int) (int64, bool) {
	x := trim(a.L)
	if len(x) > 2 {
		return 0, false
	}
	m := join(x)
	switch {
	case m <= math.MaxInt64 && a.Neg:
		return -int64(m), true
	case m <= math.MaxInt64:
		return int64(m), true
	case m == math.MaxInt64+1 && a.Neg:
		return math.MinInt64, true
	}
	return 0, false
}

// Sign tells the sign.
func Sign(a api.Int) int {
	switch {
	case len(trim(a.L)) == 0:
		return 0
	case a.Neg:
		return -1
	}
	return 1
}

// Cmp compares.
func Cmp(a, b api.Int) int {
	s := Sign(a)
	if t := Sign(b); s != t {
		return cmp.Compare(s, t)
	}
	return s * compare(a.L, b.L)
}

// Neg gives -a.
func Neg(a api.Int) api.Int { return number(!a.Neg, clone(trim(a.L))) }

// Add adds.
func Add(a, b api.Int) api.Int {
	x, y := trim(a.L), trim(b.L)
	switch {
	case a.Neg == b.Neg:
		return number(a.Neg, sum(x, y))
	case compare(x, y) >= 0:
		return number(a.Neg, difference(x, y))
	}
	return number(b.Neg, difference(y, x))
}

// Sub subtracts.
func Sub(a, b api.Int) api.Int { return Add(a, api.Int{Neg: !b.Neg, L: b.L}) }

// Mul multiplies.
func Mul(a, b api.Int) api.Int {
	return number(a.Neg != b.Neg, product(trim(a.L), trim(b.L)))
}

// Quo divides; what is left is not below 0.
func Quo(a, b api.Int) (api.Int, api.Int, api.Errno) {
	x, y := trim(a.L), trim(b.L)
	if len(y) == 0 {
		return api.Int{}, api.Int{}, api.ErrZero
	}
	q, r := quotient(x, y)
	// Of an a below 0 the rest of |a| would lie below 0: one more |b| is taken.
	if a.Neg && len(trim(r)) > 0 {
		q, r = sum(q, []uint32{1}), difference(y, r)
	}
	return number(a.Neg != b.Neg, q), number(false, r), api.OK
}

// Gcd gives the greatest common divisor.
func Gcd(a, b api.Int) api.Int { return number(false, divisor(trim(a.L), trim(b.L))) }

// Power gives a^n.
func Power(a api.Int, n int) (api.Int, api.Errno) {
	if n < 0 {
		return api.Int{}, api.ErrArg
	}
	if n == 0 {
		return Of(1), api.OK
	}
	x := trim(a.L)
	neg := a.Neg && n%2 == 1
	k := Bits(a)
	if k <= 1 {
		return number(neg, clone(x)), api.OK
	}
	// n times k could wrap; what MaxBits holds k times does not.
	if n > api.MaxBits/k {
		return api.Int{}, api.ErrBig
	}
	return number(neg, power(x, n)), api.OK
}

// Bits tells how many bits.
func Bits(a api.Int) int {
	x := trim(a.L)
	if len(x) == 0 {
		return 0
	}
	return 32*(len(x)-1) + bits.Len32(x[len(x)-1])
}

// Mod gives what is left by a small number.
func Mod(a api.Int, m int64) (int64, api.Errno) {
	if m < 1 || m > api.MaxPrime {
		return 0, api.ErrArg
	}
	var r uint64
	for i := len(a.L) - 1; i >= 0; i-- {
		r = (r<<32 | uint64(a.L[i])) % uint64(m)
	}
	if a.Neg && r > 0 {
		return m - int64(r), api.OK
	}
	return int64(r), api.OK
}
