package closure

import (
	"ashlar/api"
	"ashlar/held"
	"ashlar/limbs"
	"ashlar/ore"
	"ashlar/roots"
	"ashlar/seq"
)

// frame makes a result, whatever row of the table it is: find finds an operator,
// not zero, and value tells the result's value at n. The operator's relation must
// hold at all numbers but those at the places and, as far as its order, ahead of
// each.
func frame(cost int, find func() api.Op, value func(n int) api.Rat, places []int) (*seq.Seq, api.Errno) {
	if cost > api.MaxBits {
		return nil, api.ErrBig
	}
	// A common divisor of the entries would make its roots singular for nothing.
	op := mended(ore.Prim(find()), value, places)
	needs, _ := seq.Needs(op)
	// A free index from MaxIndex on needs more, and an order alone never does.
	if limbs.Cmp(needs, limbs.Of(api.MaxIndex)) > 0 {
		return nil, api.ErrIndex
	}
	length, _ := limbs.Small(needs)
	win := make([]api.Rat, length)
	for n := range win {
		win[n] = value(n)
	}
	return held.New(op, win), api.OK
}

// mended makes each number singular at which the relation should hold and does
// not: the window says what is there.
func mended(op api.Op, value func(n int) api.Rat, places []int) api.Op {
	for _, last := range places {
		for n := max(last-ore.Order(op), 0); n <= last; n++ {
			if held.IsSingular(op, n) || held.Holds(op, n, value) {
				continue
			}
			op = ore.Each(op, func(p api.Poly) api.Poly { return roots.With(p, limbs.Of(int64(n))) })
		}
	}
	return op
}
