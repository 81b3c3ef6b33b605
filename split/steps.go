package split

import (
	"ashlar/api"
	"ashlar/limbs"
	"ashlar/seq"
	"ashlar/upoly"
)

// steps are those of an operator in normal form, whose order is above 0.
type steps struct{ op api.Op }

func stepsOf(s *seq.Seq) steps { return steps{op: s.Op()} }

// step is one of them, at a number.
type step struct {
	last   []api.Int // the last row of its matrix
	number api.Int
}

func (s steps) at(k int) step {
	x, r := limbs.Of(int64(k)), s.order()
	t := step{number: upoly.Eval(s.op[r], x)}
	for _, c := range s.op[:r] {
		t.last = append(t.last, limbs.Neg(upoly.Eval(c, x)))
	}
	return t
}

func (s steps) order() int { return len(s.op) - 1 }

// carry multiplies rows, which it may write into, by the matrices of the steps
// to - 1, .., from, in this order.
func (s steps) carry(x rows, from, to int) rows {
	if to-from <= s.few(len(x.list)) {
		for k := to - 1; k >= from; k-- {
			x.take(s.at(k))
		}
		return x
	}
	middle, half := from+(to-from)/2, s.carry
	return times(half(x, middle, to), half(units(s.order()), from, middle))
}

// few is up to how many steps go faster one after the other than by halves, behind
// so many rows. For each row a step takes some r products of a long number with a
// short one; halves take r^2 of long ones, and make r rows for the lower half where
// there may be one in all.
func (s steps) few(count int) int {
	r := s.order()
	return r * r * r / count
}
