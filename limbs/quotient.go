package limbs

import "math/bits"

// quotient gives x over y, and what is left; y is trimmed and not zero.
func quotient(x, y []uint32) ([]uint32, []uint32) {
	n := len(y)
	if compare(x, y) < 0 {
		return nil, clone(x)
	}
	if n == 1 {
		q := clone(x)
		r := divideByLimb(q, y[0])
		return q, []uint32{r}
	}
	// The highest bit of the divisor must be 1 for the guesses to be close.
	up := bits.LeadingZeros32(y[n-1])
	u, v := shiftUp(x, up), shiftUp(y, up)[:n]
	q := make([]uint32, len(u)-n)
	divide(q, u, v)
	r := u[:n]
	shiftDown(r, up)
	return q, r
}

// divideByLimb turns x into its quotient, and tells what is left.
func divideByLimb(x []uint32, d uint32) uint32 {
	var r uint64
	for i := len(x) - 1; i >= 0; i-- {
		t := r<<32 | uint64(x[i])
		x[i], r = uint32(t/uint64(d)), t%uint64(d)
	}
	return uint32(r)
}

// shiftUp gives x times 2^up, one limb longer; up is below 32.
func shiftUp(x []uint32, up int) []uint32 {
	z := make([]uint32, len(x)+1)
	for i, w := range x {
		z[i] |= w << up
		z[i+1] = w >> (32 - up)
	}
	return z
}

// shiftDown turns x into x over 2^down; down is below 32.
func shiftDown(x []uint32, down int) {
	for i := range x {
		x[i] >>= down
		if i+1 < len(x) {
			x[i] |= x[i+1] << (32 - down)
		}
	}
}

// divide lays u over v into q, and leaves in u what is left. The highest bit of
// v is 1, v has two limbs or more, u is as long as q and v together, and its
// highest limbs, as many as v has, are below v: so q has room.
func divide(q, u, v []uint32) {
	n, k := len(v), len(q)
	switch {
	case n < splitFrom || k < splitFrom:
		divideRows(q, u, v)
	case 2*k <= n:
		divideByHead(q, u, v)
	default:
		for k > 0 {
			from := max(0, k-n/2)
			divide(q[from:k], u[from:k+n], v)
			k = from
		}
	}
}

// divideByHead guesses q, by v's highest limbs alone, as many as q has: such a
// guess is at most 2 too great.
func divideByHead(q, u, v []uint32) {
	n := len(v)
	tail := n - len(q)
	head := v[tail:]
	if compare(u[n:], head) < 0 {
		divide(q, u[tail:], head)
	} else {
		// Both are equal, so the guess is the greatest q that has room.
		for i := range q {
			q[i] = 1<<32 - 1
		}
		takeFrom(u[n:], head)
		addTo(u[tail:], head)
	}
	lack := takeFrom(u, product(q, v[:tail]))
	for lack > 0 {
		takeFrom(q, []uint32{1})
		lack -= addTo(u, v)
	}
}

func divideRows(q, u, v []uint32) {
	n := len(v)
	for i := len(q) - 1; i >= 0; i-- {
		row := u[i : i+n+1]
		d := guess(row, v)
		if takeTimes(row, v, d) {
			d--
			addTo(row, v)
		}
		q[i] = uint32(d)
	}
}

// guess tells, by the highest limbs, the next limb of a quotient, or 1 more.
func guess(u, v []uint32) uint64 {
	n := len(v)
	top := uint64(u[n])<<32 | uint64(u[n-1])
	head, next := uint64(v[n-1]), uint64(v[n-2])
	d := min(top/head, 1<<32-1)
	rest := top - d*head
	for rest < 1<<32 && d*next > rest<<32|uint64(u[n-2]) {
		d--
		rest += head
	}
	return d
}

// takeTimes takes d times v from u, which is a limb longer, and tells whether
// something lacks.
func takeTimes(u, v []uint32, d uint64) bool {
	var carry uint64
	for i, w := range v {
		t := d*uint64(w) + carry
		carry = t >> 32
		if u[i] < uint32(t) {
			carry++
		}
		u[i] -= uint32(t)
	}
	n := len(v)
	lacks := uint64(u[n]) < carry
	u[n] -= uint32(carry)
	return lacks
}
