// Package held is what a sequence is: an operator of the shift and a window that
// determines. It stands below seq, whose Define refuses what is too great: layers
// that make sequences of sequences hold here what they have found, of any size.
package held

import (
	"slices"

	"ashlar/api"
	"ashlar/limbs"
	"ashlar/ore"
	"ashlar/upoly"
)

// Seq is a sequence: an operator, a window that determines, and the singular
// numbers, all in normal form. A Seq that New has not made is read as a nil one.
type Seq struct {
	op       api.Op
	win      []api.Rat
	singular []int
}

// New makes one of an operator that is not zero and a window that determines, in
// which the relations hold, both in normal form. It keeps both.
func New(op api.Op, win []api.Rat) *Seq {
	s := &Seq{op: op, win: win}
	for n := range Relations(op, win) {
		if IsSingular(op, n) {
			s.singular = append(s.singular, n)
		}
	}
	return s
}

// Op gives its operator.
func (s *Seq) Op() api.Op { return ore.Norm(s.read().op) }

// Window gives its window.
func (s *Seq) Window() []api.Rat {
	win := s.read().win
	out := make([]api.Rat, len(win))
	for i, v := range win {
		out[i] = copied(v)
	}
	return out
}

// Order tells its order.
func (s *Seq) Order() int { return ore.Order(s.read().op) }

// Len tells the window's length.
func (s *Seq) Len() int { return len(s.read().win) }

// Singular tells the singular numbers.
func (s *Seq) Singular() []int { return slices.Clone(s.read().singular) }

// Free tells whether an index is free.
func (s *Seq) Free(n int) bool {
	r := s.Order()
	// Below r there is none: and of n below 0 the difference could wrap.
	return n >= r && slices.Contains(s.read().singular, n-r)
}

// read gives what s says, of none too: the operator 1 without a window.
func (s *Seq) read() Seq {
	if s == nil || len(s.op) == 0 {
		return Seq{op: api.Op{upoly.Of(1)}}
	}
	return *s
}

// copied gives v, in normal form, in memory of its own.
func copied(v api.Rat) api.Rat {
	return api.Rat{Num: limbs.Add(v.Num, api.Int{}), Den: limbs.Add(v.Den, api.Int{})}
}
