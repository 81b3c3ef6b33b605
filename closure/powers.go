package closure

import (
	"ashlar/api"
	"ashlar/limbs"
	"ashlar/minors"
	"ashlar/upoly"
)

// vector is a list of polynomials over one.
type vector struct {
	nums []api.Poly
	den  api.Poly
}

// powers goes through the powers of a letter modulo an operator in it. Each is a
// combination of those below the order: where no number from n on is singular, so
// the value that stands as far behind n comes of the first ones there.
type powers struct {
	op   api.Op
	past api.Int // the letter goes past x as x + past
	at   vector
}

// powersOf stands at the power 0.
func powersOf(a api.Op, past int) *powers {
	at := vector{nums: make([]api.Poly, len(a)-1), den: upoly.Of(1)}
	if len(at.nums) > 0 {
		at.nums[0] = upoly.Of(1)
	}
	return &powers{op: a, past: limbs.Of(int64(past)), at: at}
}

// step goes to the next power: the letter times the one at hand. In it the power
// of the order, once it comes up, gives way to those below.
func (w *powers) step() {
	r := len(w.at.nums)
	if r == 0 {
		return
	}
	var shifted []api.Poly
	for _, p := range w.at.nums {
		shifted = append(shifted, upoly.Shift(p, w.past))
	}
	last := shifted[r-1]
	nums := append([]api.Poly{nil}, shifted[:r-1]...)
	den := upoly.Shift(w.at.den, w.past)
	if upoly.Deg(last) >= 0 {
		den = upoly.Mul(den, w.op[r])
		for i, p := range nums {
			nums[i] = upoly.Sub(upoly.Mul(p, w.op[r]), upoly.Mul(w.op[i], last))
		}
	}
	w.at = vector{nums: nums, den: den}
}

// multiple gives a least common left multiple of operators in a letter.
func multiple(a, b api.Op, past int) api.Op {
	v, w := powersOf(a, past), powersOf(b, past)
	vectors := []vector{beside(v.at, w.at)}
	for range len(v.at.nums) + len(w.at.nums) {
		v.step()
		w.step()
		vectors = append(vectors, beside(v.at, w.at))
	}
	return relation(vectors)
}

// tensor gives the least operator that follows for the products of values, one of
// them by the operator a, the other by b.
func tensor(a, b api.Op) api.Op {
	v, w := powersOf(a, 1), powersOf(b, 1)
	vectors := []vector{times(v.at, w.at)}
	for range len(v.at.nums) * len(w.at.nums) {
		v.step()
		w.step()
		vectors = append(vectors, times(v.at, w.at))
	}
	return relation(vectors)
}

// stepping gives the least operator in the k-th power of the letter that a divides
// on the right, as one in the letter.
func stepping(a api.Op, k int) api.Op {
	w := powersOf(a, 1)
	vectors := []vector{w.at}
	for range len(w.at.nums) {
		for range k {
			w.step()
		}
		vectors = append(vectors, w.at)
	}
	return relation(vectors)
}

// beside gives one list behind the other.
func beside(v, w vector) vector {
	out := vector{den: upoly.Mul(v.den, w.den)}
	for _, p := range v.nums {
		out.nums = append(out.nums, upoly.Mul(p, w.den))
	}
	for _, p := range w.nums {
		out.nums = append(out.nums, upoly.Mul(p, v.den))
	}
	return out
}

// times gives all products of a number of v and one of w.
func times(v, w vector) vector {
	out := vector{den: upoly.Mul(v.den, w.den)}
	for _, p := range v.nums {
		for _, q := range w.nums {
			out.nums = append(out.nums, upoly.Mul(p, q))
		}
	}
	return out
}

// relation gives the operator of the least order whose entries, each times the
// vector of its power, add up to zero. There are more vectors than each has
// numbers.
func relation(vectors []vector) api.Op {
	rows := make([][]api.Poly, len(vectors[0].nums))
	if len(rows) == 0 {
		return api.Op{vectors[0].den}
	}
	for i := range rows {
		for _, v := range vectors {
			rows[i] = append(rows[i], v.nums[i])
		}
	}
	out := api.Op(minors.First(rows))
	for i, v := range vectors {
		out[i] = upoly.Mul(out[i], v.den)
	}
	return out
}
