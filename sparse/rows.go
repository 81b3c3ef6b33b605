package sparse

import (
	"cmp"
	"container/heap"
	"slices"

	"ashlar/api"
	"ashlar/limbs"
)

// row is what is still to come of a list of terms with falling Exps, each of
// them times the term by. It only reads them.
type row struct {
	by   api.Term
	rest []api.Term
}

func (r *row) exp() int { return r.by.Exp + r.rest[0].Exp }

// take gives the next term's Coef, in memory of its own, and goes on.
func (r *row) take() api.Int {
	c := limbs.Mul(r.by.Coef, r.rest[0].Coef)
	r.rest = r.rest[1:]
	return c
}

// rows are rows of which something is still to come, a heap with the greatest
// Exp of a next term first.
type rows []*row

func (h rows) Len() int { return len(h) }

func (h rows) Less(i, j int) bool { return h[i].exp() > h[j].exp() }

func (h rows) Swap(i, j int) { h[i], h[j] = h[j], h[i] }

func (h *rows) Push(x any) { *h = append(*h, x.(*row)) }

func (h *rows) Pop() any {
	last := len(*h) - 1
	r := (*h)[last]
	*h = (*h)[:last]
	return r
}

// lay puts a row into the heap, unless nothing of it is to come.
func (h *rows) lay(r *row) {
	if len(r.rest) > 0 {
		heap.Push(h, r)
	}
}

// takeLike takes all terms of the greatest Exp off the heap and gives their sum.
func (h *rows) takeLike() api.Term {
	exp := (*h)[0].exp()
	var coefs []api.Int
	for h.Len() > 0 && (*h)[0].exp() == exp {
		r := heap.Pop(h).(*row)
		coefs = append(coefs, r.take())
		h.lay(r)
	}
	return api.Term{Coef: total(coefs), Exp: exp}
}

// takeAll empties the heap and gives the sum of its rows in normal form.
func (h *rows) takeAll() []api.Term {
	var out []api.Term
	for h.Len() > 0 {
		if t := h.takeLike(); limbs.Sign(t.Coef) != 0 {
			out = append(out, t)
		}
	}
	return out
}

// sum gives the sum of lists that may be handed in, in normal form.
func sum(lists ...[]api.Term) []api.Term {
	h := &rows{}
	for _, ts := range lists {
		h.lay(&row{by: api.Term{Coef: limbs.Of(1)}, rest: falling(ts)})
	}
	return h.takeAll()
}

// product gives the product of two lists in normal form, in normal form.
func product(a, b []api.Term) []api.Term {
	// A row for each term of the shorter list keeps the heap small.
	if len(a) > len(b) {
		a, b = b, a
	}
	h := &rows{}
	for _, t := range a {
		h.lay(&row{by: t, rest: b})
	}
	return h.takeAll()
}

// falling gives the terms by falling Exps, in a list of its own.
func falling(ts []api.Term) []api.Term {
	out := slices.Clone(ts)
	slices.SortFunc(out, func(s, t api.Term) int { return cmp.Compare(t.Exp, s.Exp) })
	return out
}

// total adds up at least one number, by halves: so a long one among many is
// copied few times.
func total(as []api.Int) api.Int {
	if len(as) == 1 {
		return as[0]
	}
	half := len(as) / 2
	return limbs.Add(total(as[:half]), total(as[half:]))
}
