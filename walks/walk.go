package walks

import (
	"ashlar/api"
	"ashlar/limbs"
	"ashlar/seq"
	"ashlar/upoly"
)

// walk goes on behind a window, a value a step.
type walk struct {
	op    api.Op
	at    int       // where the next relation stands
	last  fractions // the values with which it begins, as many as the order
	first api.Int   // of the last step: the entry of the power 0
	by    api.Int   // of the last step: what the Den was multiplied by
	base  api.Int   // every prime that divides the Den divides it
}

// walkOf stands at the end of the window of s.
func walkOf(s *seq.Seq) *walk {
	from := s.Len() - s.Order()
	last := fractionsOf(s.Window()[from:])
	return &walk{op: s.Op(), at: from, last: last, base: last.den}
}

// next goes to the next value and gives it in normal form, if each step is one of
// next's.
func (w *walk) next() api.Rat {
	w.step()
	w.lower()
	return w.lowest()
}

// step goes to the next value. No number is singular behind a window.
func (w *walk) step() {
	s := At(w.at)
	Pair(w.op, 0, w.last.all(), s.Add)
	next, lead := limbs.Neg(s.total.Num), upoly.Eval(w.op[len(w.op)-1], s.at)
	if limbs.Sign(lead) < 0 {
		next, lead = limbs.Neg(next), limbs.Neg(lead)
	}
	if limbs.Sign(next) == 0 { // It is 0 over each Den.
		lead = limbs.Of(1)
	}
	w.last.multiply(lead)
	w.last.nums = append(w.last.nums, next)[1:]
	w.first, w.by = upoly.Eval(w.op[0], s.at), lead
	w.at++
}

// value gives the last value, neither in lowest terms nor in memory of its own.
func (w *walk) value() api.Rat {
	n := len(w.last.nums)
	if n == 0 { // Relations of the order 0 say that all is 0.
		return api.Rat{Den: limbs.Of(1)}
	}
	return api.Rat{Num: w.last.nums[n-1], Den: w.last.den}
}

// lower brings the values over their least common Den, if it has done so behind
// each step. A prime that all of them share with the Den now, but did not before,
// divides what the Den was multiplied by, or else the entry of the power 0: the
// relation says so, as the prime divides all other values there. These are short
// numbers, and spare the common divisor of long ones.
func (w *walk) lower() { w.last.lower(limbs.Mul(w.first, w.by)) }

// lowest gives the last value in normal form, behind lower, if it has done so
// behind each step.
func (w *walk) lowest() api.Rat {
	one := fractionOf(w.value())
	// A value that stands alone shares nothing with its Den already.
	if len(w.last.nums) > 1 {
		w.base = multiple(w.base, w.by)
		one.lower(shorter(w.base, one.den))
	}
	return api.Rat{Num: one.nums[0], Den: one.den}
}
