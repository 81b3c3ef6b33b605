package upoly

import (
	"ashlar/api"
	"ashlar/limbs"
	"ashlar/rat"
)

// Eval gives p at x.
func Eval(p api.Poly, x api.Int) api.Int {
	at := whole{bare(x)}
	return horner(read(p), api.Int{}, at.times, at.plus)
}

// EvalRat gives p at x.
func EvalRat(p api.Poly, x api.Rat) api.Rat {
	at := ratio{rat.Norm(x)}
	start := api.Rat{Den: limbs.Of(1)}
	return rat.Norm(horner(read(p), start, at.times, at.plus))
}

// horner gives the value of p by what multiplies a value by x and what adds an
// entry to a value; zero is the value 0.
func horner[N any](p api.Poly, zero N, times func(v N) N, plus func(v N, c api.Int) N) N {
	v := zero
	for i := len(p) - 1; i >= 0; i-- {
		v = plus(times(v), p[i])
	}
	return v
}

// whole is an integer at which a polynomial is told.
type whole struct{ x api.Int }

func (w whole) times(v api.Int) api.Int { return limbs.Mul(v, w.x) }

func (w whole) plus(v, c api.Int) api.Int { return limbs.Add(v, c) }

// ratio is a rational at which a polynomial is told. Its values have a power of
// x.Den below the line, whatever could be cancelled: one common divisor at the
// end is less work than one a step.
type ratio struct{ x api.Rat }

func (r ratio) times(v api.Rat) api.Rat {
	return api.Rat{Num: limbs.Mul(v.Num, r.x.Num), Den: limbs.Mul(v.Den, r.x.Den)}
}

func (r ratio) plus(v api.Rat, c api.Int) api.Rat {
	return api.Rat{Num: limbs.Add(v.Num, limbs.Mul(c, v.Den)), Den: v.Den}
}
