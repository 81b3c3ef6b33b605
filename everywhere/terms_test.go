package everywhere

import (
	"testing"

	"ashlar/api"
	"ashlar/sparse"
)

// termLists are lists of terms in normal form and in others, some of which may
// not be handed in.
func termLists() [][]api.Term {
	n := ints()
	out := [][]api.Term{nil, {}, {{Coef: n[0], Exp: 1 << 30}}, {{Coef: n[3], Exp: -1}}, {{Coef: n[4], Exp: 1<<30 + 1}}}
	for i, a := range n {
		exp := []int{0, 1, 7, 65535, 65536, 1 << 29}[i%6]
		b, c := n[(i+5)%len(n)], n[(3*i+1)%len(n)]
		out = append(out,
			[]api.Term{{Coef: a, Exp: exp}},
			[]api.Term{{Coef: b, Exp: 3}, {Coef: a, Exp: exp}, {Coef: c, Exp: exp}, {Coef: a, Exp: 2}})
	}
	var many []api.Term
	for i := range 60 {
		many = append(many, api.Term{Coef: n[i%len(n)], Exp: i * i % 23})
	}
	return append(out, many)
}

func listsOfTerms() [][][]api.Term {
	n := termLists()
	out := [][][]api.Term{nil, {}, {nil}, {nil, {}}, {n[6], n[6]}, n, n[5:], n[7:12]}
	for i, ts := range n {
		out = append(out, [][]api.Term{ts}, [][]api.Term{ts, n[(i*5+2)%len(n)], n[(i*3+1)%len(n)]})
	}
	return out
}

func evals() [][]any {
	var out [][]any
	for _, ts := range termLists() {
		for _, x := range wholes() {
			for _, m := range wholes() {
				out = append(out, []any{ts, x, m})
			}
		}
	}
	return out
}

func TestSparse(t *testing.T) {
	one, two := ones(termLists()), pairs(termLists(), termLists())
	add := func(lists [][]api.Term) ([]api.Term, api.Errno) { return sparse.Add(lists...) }
	for _, c := range []call{
		{"sparse.Norm", sparse.Norm, one},
		{"sparse.Add", add, ones(listsOfTerms())},
		{"sparse.Mul", sparse.Mul, two},
		{"sparse.Of", sparse.Of, ones(polys())},
		{"sparse.Poly", sparse.Poly, one},
		{"sparse.Eval", sparse.Eval, evals()},
	} {
		hold(t, c)
	}
}
