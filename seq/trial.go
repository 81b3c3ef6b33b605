package seq

import (
	"ashlar/api"
	"ashlar/gauge"
	"ashlar/held"
	"ashlar/limbs"
	"ashlar/ore"
	"ashlar/rat"
)

// most is the greatest order and the greatest degree of a sequence's operator.
const most = 256

// trial is an operator and a window that may define a sequence, in normal form.
type trial struct {
	op  api.Op
	win []api.Rat
}

// trialOf reads what was handed in. That a window is too long shows in one value
// too many: the values behind it are not worth their lowest terms.
func trialOf(a api.Op, win []api.Rat) trial {
	t := trial{op: ore.Norm(a)}
	for _, v := range win[:min(len(win), api.MaxIndex+1)] {
		t.win = append(t.win, rat.Norm(v))
	}
	return t
}

// check is a fault that a trial may have, with the error that tells it.
type check struct {
	fails func(t trial) bool
	tells api.Errno
}

// checks are in the order in which errors are told: each counts on those ahead of
// it.
func checks() []check {
	return []check{
		{trial.isLong, api.ErrArg},
		{trial.isOfZero, api.ErrZero},
		{trial.isBig, api.ErrBig},
		{trial.isUnder, api.ErrUnder},
		{trial.isBroken, api.ErrBreak},
	}
}

func (t trial) isLong() bool { return len(t.win) > api.MaxIndex }

func (t trial) isOfZero() bool { return isZero(t.op) }

func (t trial) isBig() bool {
	return gauge.Term(t.op, t.win, len(t.win)) > api.MaxBits || ore.Order(t.op) > most || ore.Degree(t.op) > most
}

// isUnder tells whether the window does not determine.
func (t trial) isUnder() bool {
	return limbs.Cmp(leastLength(t.op), limbs.Of(int64(len(t.win)))) > 0
}

// isBroken tells whether a relation within the window does not hold.
func (t trial) isBroken() bool {
	for n := range held.Relations(t.op, t.win) {
		if !held.IsSingular(t.op, n) && !held.Holds(t.op, n, t.value) {
			return true
		}
	}
	return false
}

func (t trial) value(k int) api.Rat { return t.win[k] }
