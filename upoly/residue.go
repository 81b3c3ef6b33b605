package upoly

import (
	"ashlar/api"
	"ashlar/residue"
)

// prime is a prime number modulo which is reckoned.
type prime struct{ residue.Prime }

func greatestPrime() prime { return prime{api.MaxPrime} }

// below gives the next prime. A call comes nowhere near the end of them: there
// are more than a hundred million.
func (m prime) below() prime {
	n := m.Prime - 2
	for !residue.IsPrime(int64(n)) {
		n -= 2
	}
	return prime{n}
}

// nearest gives the number of a residue that is nearest to 0.
func (m prime) nearest(r uint64) int64 {
	if r > uint64(m.Prime)/2 {
		return int64(r) - int64(m.Prime)
	}
	return int64(r)
}

// residues gives those of p's entries, without the last that are 0.
func (m prime) residues(p api.Poly) []uint64 { return trimResidues(m.Entries(p)) }

func trimResidues(a []uint64) []uint64 {
	n := len(a)
	for n > 0 && a[n-1] == 0 {
		n--
	}
	return a[:n]
}

func (m prime) scaled(a []uint64, by uint64) []uint64 {
	out := make([]uint64, len(a))
	for i, c := range a {
		out[i] = m.Times(c, by)
	}
	return out
}

// divisor gives the greatest common divisor, with the leading entry 1; neither
// of both is zero, and their memory is used up.
func (m prime) divisor(a, b []uint64) []uint64 {
	for len(b) > 0 {
		b = m.scaled(b, m.Inverse(b[len(b)-1]))
		a, b = b, m.rest(a, b)
	}
	return a
}

// rest turns a into what b leaves of it; b's leading entry is 1.
func (m prime) rest(a, b []uint64) []uint64 {
	n := len(b) - 1
	for k := len(a) - 1; k >= n; k-- {
		// Adding the opposite needs no borrow.
		by := m.Minus(0, a[k])
		if by == 0 {
			continue
		}
		row := a[k-n : k]
		for j := range row {
			row[j] = (row[j] + by*b[j]) % uint64(m.Prime)
		}
	}
	return trimResidues(a[:min(n, len(a))])
}
