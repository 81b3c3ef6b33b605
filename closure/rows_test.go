package closure_test

import (
	"fmt"
	"math/big"
	"testing"

	"ashlar/api"
	"ashlar/closure"
	"ashlar/seq"
)

// row is a row of the document's table: it is asked for, and told by the operands'
// values. One that is of one sequence passes b over.
type row struct {
	name  string
	kind  int
	k     int // of Part and Spread, else 0
	ask   func(a, b *seq.Seq) (*seq.Seq, api.Errno)
	order func(r, s int) int
	value func(a, b []*big.Rat, n int) *big.Rat
	far   func(n int) int // up to which index the operands' values are asked for
}

func add(v, w *big.Rat) *big.Rat { return new(big.Rat).Add(v, w) }

func mul(v, w *big.Rat) *big.Rat { return new(big.Rat).Mul(v, w) }

func same(n int) int { return n }

func ofTwo() []row {
	return []row{
		{"Sum", 1, 0, closure.Sum, func(r, s int) int { return r + s }, func(a, b []*big.Rat, n int) *big.Rat { return add(a[n], b[n]) }, same},
		{"Product", 3, 0, closure.Product, func(r, s int) int { return r * s }, func(a, b []*big.Rat, n int) *big.Rat { return mul(a[n], b[n]) }, same},
		{"Interlace", 8, 0, closure.Interlace, func(r, s int) int { return 2*r + 2*s }, func(a, b []*big.Rat, n int) *big.Rat { return [][]*big.Rat{a, b}[n%2][n/2] }, same},
	}
}

func ofOne() []row {
	sums := func(a, b []*big.Rat, n int) *big.Rat {
		out := new(big.Rat)
		for _, v := range a[:n+1] {
			out.Add(out, v)
		}
		return out
	}
	return []row{
		scaling(over(-3, 14)), scaling(api.Rat{}),
		{"Partial", 4, 0, func(a, b *seq.Seq) (*seq.Seq, api.Errno) { return closure.Partial(a) }, func(r, s int) int { return r + 1 }, sums, same},
		{"Next", 5, 0, func(a, b *seq.Seq) (*seq.Seq, api.Errno) { return closure.Next(a) }, func(r, s int) int { return r }, func(a, b []*big.Rat, n int) *big.Rat { return a[n+1] }, func(n int) int { return n + 1 }},
		parting(1, 0), parting(2, 0), parting(2, 1), parting(3, 2), spreading(1, 0), spreading(2, 0), spreading(2, 1), spreading(3, 1),
	}
}

func scaling(v api.Rat) row {
	return row{"Scale", 2, 0, func(a, b *seq.Seq) (*seq.Seq, api.Errno) { return closure.Scale(v, a) }, func(r, s int) int { return r },
		func(a, b []*big.Rat, n int) *big.Rat { return mul(bigRat(v), a[n]) }, same}
}

func parting(k, j int) row {
	return row{fmt.Sprintf("Part %d, %d", k, j), 6, k, func(a, b *seq.Seq) (*seq.Seq, api.Errno) { return closure.Part(a, k, j) }, func(r, s int) int { return r },
		func(a, b []*big.Rat, n int) *big.Rat { return a[k*n+j] }, func(n int) int { return k*n + j }}
}

func spreading(k, j int) row {
	value := func(a, b []*big.Rat, n int) *big.Rat {
		if n < j || (n-j)%k != 0 {
			return new(big.Rat)
		}
		return a[(n-j)/k]
	}
	return row{fmt.Sprintf("Spread %d, %d", k, j), 7, k, func(a, b *seq.Seq) (*seq.Seq, api.Errno) { return closure.Spread(a, k, j) }, func(r, s int) int { return k * r }, value, same}
}

// expect asks for a row's result and holds its first n values against what the
// document says; where the estimate is too great, it looks for the refusal. It
// tells the error.
func (w row) expect(t *testing.T, a, b *seq.Seq, n int) api.Errno {
	t.Helper()
	what := w.name + " of (" + modelOf(a).String() + ")"
	if w.isOfTwo() {
		what += " and (" + modelOf(b).String() + ")"
	}
	s, e := w.ask(a, b)
	if cost := costOf(w.kind, a, b, w.k); closure.Cost(w.kind, a, b, w.k) != cost || cost > api.MaxBits != (e == api.ErrBig) {
		t.Errorf("P15.4, P15.3: %s: the cost %d, not %d, and the error %d", what, closure.Cost(w.kind, a, b, w.k), cost, e)
	}
	if (s == nil) != (e != api.OK) {
		t.Errorf("P15.3: %s: %v, beside the error %d", what, s, e)
	}
	if s == nil {
		return e
	}
	from, with := modelOf(a).values(w.far(n)+1), modelOf(b).values(w.far(n)+1)
	var want []*big.Rat
	for i := range n {
		want = append(want, w.value(from, with, i))
	}
	expectValues(t, what, s, w.order(a.Order(), b.Order()), want)
	return e
}

func (w row) isOfTwo() bool { return w.kind == 1 || w.kind == 3 || w.kind == 8 }

// expectTold expects an answer that is not refused.
func (w row) expectTold(t *testing.T, a, b *seq.Seq, n int) {
	t.Helper()
	if e := w.expect(t, a, b, n); e != api.OK {
		t.Errorf("P15.3: %s of (%s) and (%s): %d", w.name, modelOf(a), modelOf(b), e)
	}
}
