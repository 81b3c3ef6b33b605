package held

import (
	"ashlar/api"
	"ashlar/limbs"
	"ashlar/ore"
	"ashlar/sums"
	"ashlar/upoly"
)

// Relations tells how many relations speak of a window's values alone: those at
// the numbers below. Of a window that determines, these are all that may be
// singular.
func Relations(a api.Op, win []api.Rat) int { return len(win) - ore.Order(a) }

// IsSingular tells whether a number is singular for an operator in normal form,
// not zero.
func IsSingular(a api.Op, n int) bool {
	return limbs.Sign(upoly.Eval(a[len(a)-1], limbs.Of(int64(n)))) == 0
}

// Holds tells whether the relation of a at n holds of the values that value tells;
// it asks only for those that count there.
func Holds(a api.Op, n int, value func(k int) api.Rat) bool {
	x := limbs.Of(int64(n))
	var terms []api.Rat
	for i, p := range a {
		if c := upoly.Eval(p, x); limbs.Sign(c) != 0 {
			v := value(n + i)
			terms = append(terms, api.Rat{Num: limbs.Mul(c, v.Num), Den: v.Den})
		}
	}
	return limbs.Sign(sums.Of(terms).Num) == 0
}
