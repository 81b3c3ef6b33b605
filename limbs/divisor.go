package limbs

import "math/bits"

// window is how many of the highest bits a run of Euclid's steps looks at. What
// they multiply by is at most 2^(window/2) then: its products with limbs, and
// their differences, fit into 63 bits.
const window = 60

// steps is a run of Euclid's steps, made at once: of a and b are left
// aa a + ab b and ba a + bb b.
type steps struct {
	aa, ab, ba, bb int64
}

// divisor gives the greatest common divisor; of two zeros zero.
func divisor(x, y []uint32) []uint32 {
	a, b := clone(x), clone(y)
	if compare(a, b) < 0 {
		a, b = b, a
	}
	for len(a) > 2 && len(b) > 0 {
		if s, ok := lookAhead(a, b); ok {
			a, b = s.walk(a, b)
			continue
		}
		_, r := quotient(a, b)
		a, b = b, trim(r)
	}
	if len(b) == 0 {
		return a
	}
	return words(smallDivisor(join(a), join(b)))
}

func smallDivisor(a, b uint64) uint64 {
	for b > 0 {
		a, b = b, a%b
	}
	return a
}

// lookAhead makes the steps that a's and b's highest bits settle (Lehmer's way,
// stopped by Collins's condition), and tells whether there is one. a is not
// below b and has three limbs or more.
func lookAhead(a, b []uint32) (steps, bool) {
	n := len(a)
	from := 32*(n-1) + bits.Len32(a[n-1]) - window
	p, q := bitsFrom(a, from), bitsFrom(b, from)
	var u, v [3]uint64
	u[1], v[2] = 1, 1
	even := false
	for q >= v[2] && p-q >= v[1]+v[2] {
		d := p / q
		p, q = q, p%q
		u = [3]uint64{u[1], u[2], u[1] + d*u[2]}
		v = [3]uint64{v[1], v[2], v[1] + d*v[2]}
		even = !even
	}
	s := steps{-int64(u[0]), int64(v[0]), int64(u[1]), -int64(v[1])}
	if even {
		s = steps{-s.aa, -s.ab, -s.ba, -s.bb}
	}
	return s, v[0] > 0
}

// bitsFrom gives the 64 bits of x from a place on.
func bitsFrom(x []uint32, place int) uint64 {
	i, off := place/32, place%32
	limb := func(i int) uint64 {
		if i < len(x) {
			return uint64(x[i])
		}
		return 0
	}
	return (limb(i)|limb(i+1)<<32)>>off | limb(i+2)<<(64-off)
}

// walk makes the steps in the memory of a and b. Both that are left are at most
// b: so a's limbs above b's need not be looked at.
func (s steps) walk(a, b []uint32) ([]uint32, []uint32) {
	var p, q int64
	for i := range b {
		x, y := int64(a[i]), int64(b[i])
		p += s.aa*x + s.ab*y
		q += s.ba*x + s.bb*y
		a[i], b[i] = uint32(p), uint32(q)
		p, q = p>>32, q>>32
	}
	return trim(a[:len(b)]), trim(b)
}
