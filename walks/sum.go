package walks

import (
	"iter"

	"ashlar/api"
	"ashlar/limbs"
	"ashlar/upoly"
)

// Sum adds up values, each times an entry at one number.
type Sum struct {
	at    api.Int
	total api.Rat
}

// At gives a sum without values; entries count as at n there.
func At(n int) *Sum { return &Sum{at: limbs.Of(int64(n))} }

// Total is not in lowest terms, and of no values it is 0 over 0, which is read as 0.
func (s *Sum) Total() api.Rat { return s.total }

// Add takes in an entry and a value.
func (s *Sum) Add(c api.Poly, v api.Rat) {
	num := limbs.Mul(upoly.Eval(c, s.at), v.Num)
	switch {
	case limbs.Sign(num) == 0:
	case limbs.Sign(s.total.Num) == 0:
		s.total = api.Rat{Num: num, Den: v.Den}
	case limbs.Cmp(s.total.Den, v.Den) == 0:
		s.total.Num = limbs.Add(s.total.Num, num)
	default:
		g := limbs.Gcd(s.total.Den, v.Den)
		up, by := over(v.Den, g), over(s.total.Den, g)
		s.total.Num = limbs.Add(limbs.Mul(s.total.Num, up), limbs.Mul(num, by))
		s.total.Den = limbs.Mul(s.total.Den, up)
	}
}

// Pair hands each entry of a, with the value that stands as far behind n, to add.
func Pair(a api.Op, n int, values iter.Seq2[int, api.Rat], add func(c api.Poly, v api.Rat)) {
	for k, v := range values {
		if i := k - n; i >= 0 && i < len(a) {
			add(a[i], v)
		}
	}
}
