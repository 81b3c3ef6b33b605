package convert

import (
	"ashlar/api"
	"ashlar/held"
	"ashlar/limbs"
	"ashlar/seq"
)

// leftPowers gives the powers m at which a sequence's relations leave something of
// its series: where that at m - r, r the order, does not hold, values ahead of the
// first one being 0. All of them are below the window's length.
func leftPowers(s *seq.Seq) []api.Int {
	a, win := s.Op(), s.Window()
	value := func(k int) api.Rat {
		if k < 0 {
			return zero()
		}
		return win[k]
	}
	var out []api.Int
	for m := range win {
		follows := m >= s.Order() && !s.Free(m)
		if !follows && !held.Holds(a, m-s.Order(), value) {
			out = append(out, limbs.Of(int64(m)))
		}
	}
	return out
}
