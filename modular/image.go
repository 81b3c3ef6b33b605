package modular

import (
	"ashlar/api"
	"ashlar/residue"
	"ashlar/seq"
)

// image is a sequence modulo a prime.
type image struct {
	m      residue.Prime
	op     [][]uint64
	values []uint64 // from that at 0 on
}

// imageOf gives it with the window's values, all of which must have one.
func imageOf(s *seq.Seq, m residue.Prime) (*image, api.Errno) {
	x := &image{m: m}
	for _, v := range s.Window() {
		r, e := ratio(m, v)
		if e != api.OK {
			return nil, e
		}
		x.values = append(x.values, r)
	}
	for _, c := range s.Op() {
		x.op = append(x.op, m.Entries(c))
	}
	return x, api.OK
}

// step goes to the next value. No number is singular behind a window.
func (x *image) step() api.Errno {
	r := len(x.op) - 1
	from := len(x.values) - r
	at := uint64(from) % uint64(x.m)
	lead := x.m.Eval(x.op[r], at)
	if lead == 0 {
		return api.ErrPrime
	}
	next := uint64(0)
	for i, v := range x.values[from:] {
		next = x.m.Minus(next, x.m.Times(x.m.Eval(x.op[i], at), v))
	}
	x.values = append(x.values, x.m.Times(next, x.m.Inverse(lead)))
	return api.OK
}

// ratio gives Num over Den as they stand, if m does not divide Den.
func ratio(m residue.Prime, a api.Rat) (uint64, api.Errno) {
	den := m.Of(a.Den)
	if den == 0 {
		return 0, api.ErrPrime
	}
	return m.Times(m.Of(a.Num), m.Inverse(den)), api.OK
}
