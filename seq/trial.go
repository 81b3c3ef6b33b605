package seq

import (
	"ashlar/api"
	"ashlar/gauge"
	"ashlar/limbs"
	"ashlar/ore"
	"ashlar/rat"
	"ashlar/sums"
	"ashlar/upoly"
)

// most is the greatest order and the greatest degree of a sequence's operator.
const most = 256

// trial is an operator and a window that may define a sequence, in normal form.
type trial struct {
	op  api.Op
	win []api.Rat
}

// trialOf reads what was handed in. That a window is too long shows in one value
// too many: the values behind it are not worth their lowest terms.
func trialOf(a api.Op, win []api.Rat) trial {
	return trial{op: ore.Norm(a), win: each(win[:min(len(win), api.MaxIndex+1)], rat.Norm)}
}

// check is a fault that a trial may have, with the error that tells it.
type check struct {
	fails func(t trial) bool
	tells api.Errno
}

// checks are in the order in which errors are told: each counts on those ahead of
// it.
func checks() []check {
	return []check{
		{trial.isLong, api.ErrArg},
		{trial.isOfZero, api.ErrZero},
		{trial.isBig, api.ErrBig},
		{trial.isUnder, api.ErrUnder},
		{trial.isBroken, api.ErrBreak},
	}
}

func (t trial) isLong() bool { return len(t.win) > api.MaxIndex }

func (t trial) isOfZero() bool { return isZero(t.op) }

func (t trial) isBig() bool {
	return gauge.Term(t.op, t.win, len(t.win)) > api.MaxBits || ore.Order(t.op) > most || ore.Degree(t.op) > most
}

// isUnder tells whether the window does not determine.
func (t trial) isUnder() bool {
	return limbs.Cmp(leastLength(t.op), limbs.Of(int64(len(t.win)))) > 0
}

// isBroken tells whether a relation within the window does not hold.
func (t trial) isBroken() bool {
	for n := range t.relations() {
		if !t.isSingular(n) && !t.holds(n) {
			return true
		}
	}
	return false
}

// relations tells how many relations speak of the window's values alone: those at
// the numbers below. Of a window that determines, these are all that may be
// singular.
func (t trial) relations() int { return len(t.win) - ore.Order(t.op) }

func (t trial) isSingular(n int) bool {
	return limbs.Sign(upoly.Eval(t.op[len(t.op)-1], limbs.Of(int64(n)))) == 0
}

// singular gives the singular numbers, of a window that determines.
func (t trial) singular() []int {
	var out []int
	for n := range t.relations() {
		if t.isSingular(n) {
			out = append(out, n)
		}
	}
	return out
}

// holds tells whether the relation at n holds.
func (t trial) holds(n int) bool {
	x := limbs.Of(int64(n))
	var terms []api.Rat
	for i, p := range t.op {
		if c := upoly.Eval(p, x); limbs.Sign(c) != 0 {
			v := t.win[n+i]
			terms = append(terms, api.Rat{Num: limbs.Mul(c, v.Num), Den: v.Den})
		}
	}
	return limbs.Sign(sums.Of(terms).Num) == 0
}
