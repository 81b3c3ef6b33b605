package closure

import (
	"ashlar/api"
	"ashlar/limbs"
	"ashlar/ore"
	"ashlar/rat"
	"ashlar/seq"
	"ashlar/upoly"
	"ashlar/walks"
)

// The rows of the table: each has an operator, which is found, and values.

// operand is a sequence that is handed in, with its values.
type operand struct {
	*walks.Known
	of *seq.Seq
}

func operandOf(s *seq.Seq) operand { return operand{walks.Of(s), s} }

// places gives k m + j for each singular number m.
func (a operand) places(k, j int) []int {
	var out []int
	for _, m := range a.of.Singular() {
		out = append(out, k*m+j)
	}
	return out
}

// both is the row of Sum and that of Product.
type both struct{ a, b operand }

func bothOf(a, b *seq.Seq) both { return both{operandOf(a), operandOf(b)} }

func (w both) multiple() api.Op { return multiple(w.a.of.Op(), w.b.of.Op(), 1) }

func (w both) sum(n int) api.Rat { return rat.Add(w.a.At(n), w.b.At(n)) }

func (w both) tensor() api.Op { return tensor(w.a.of.Op(), w.b.of.Op()) }

func (w both) product(n int) api.Rat { return rat.Mul(w.a.At(n), w.b.At(n)) }

func (w both) places() []int { return append(w.a.places(1, 0), w.b.places(1, 0)...) }

// scaled is the row of Scale.
type scaled struct {
	v api.Rat
	a operand
}

func (w scaled) operator() api.Op { return w.a.of.Op() }

func (w scaled) value(n int) api.Rat { return rat.Mul(w.v, w.a.At(n)) }

// partials is the row of Partial; it knows the first sums.
type partials struct {
	a    operand
	sums []api.Rat
}

// operator gives what makes of partial sums a's values from the next one on, and
// their relation.
func (w *partials) operator() api.Op {
	shifted := following(w.a.of.Op())
	return ore.Sub(append(api.Op{nil}, shifted...), shifted)
}

func (w *partials) value(n int) api.Rat {
	for i := len(w.sums); i <= n; i++ {
		sum := w.a.At(i)
		if i > 0 {
			sum = rat.Add(w.sums[i-1], sum)
		}
		w.sums = append(w.sums, sum)
	}
	return w.sums[n]
}

// later is the row of Next.
type later struct{ a operand }

func (w later) operator() api.Op { return following(w.a.of.Op()) }

func (w later) value(n int) api.Rat { return w.a.At(n + 1) }

// following gives the operator whose relation at n is that of a at n + 1.
func following(a api.Op) api.Op {
	return ore.Each(a, func(p api.Poly) api.Poly { return upoly.Shift(p, limbs.Of(1)) })
}

// parted is the row of Part.
type parted struct {
	a    operand
	k, j int
}

func (w parted) operator() api.Op { return narrowed(stepping(w.a.of.Op(), w.k), w.k, w.j) }

func (w parted) value(n int) api.Rat { return w.a.At(w.k*n + w.j) }

// places gives the last numbers whose relations ask for a's at a singular number.
func (w parted) places() []int {
	var out []int
	for _, m := range w.a.places(1, -w.j) {
		out = append(out, m/w.k)
	}
	return out
}

// spaced is the row of Spread.
type spaced struct {
	a    operand
	k, j int
}

func (w spaced) operator() api.Op { return apart(widened(w.a.of.Op(), w.k, w.j), w.k) }

func (w spaced) value(n int) api.Rat {
	if n%w.k != w.j {
		return api.Rat{Den: limbs.Of(1)}
	}
	return w.a.At(n / w.k)
}

// turns is the row of Interlace.
type turns struct{ a, b operand }

func (w turns) operator() api.Op {
	even, odd := widened(w.a.of.Op(), 2, 0), widened(w.b.of.Op(), 2, 1)
	return apart(multiple(even, odd, 2), 2)
}

func (w turns) value(n int) api.Rat {
	if n%2 == 0 {
		return w.a.At(n / 2)
	}
	return w.b.At(n / 2)
}

func (w turns) places() []int { return append(w.a.places(2, 0), w.b.places(2, 1)...) }
