package sparse_test

import (
	"reflect"
	"slices"
	"testing"

	"ashlar/api"
	"ashlar/sparse"
)

const mark = 0xdeadbeef

// roomy gives the same terms in lists with spare room that is marked.
func roomy(ts []api.Term) []api.Term {
	var out []api.Term
	for _, u := range ts {
		l := append(slices.Clone(u.Coef.L), mark, mark)
		out = append(out, api.Term{Coef: api.Int{Neg: u.Coef.Neg, L: l[:len(u.Coef.L)]}, Exp: u.Exp})
	}
	return append(out, term(mark, mark), term(mark, mark))[:len(ts)]
}

// copied gives all that terms hold, what is spare room too, in new memory.
func copied(ts []api.Term) []api.Term {
	out := slices.Clone(ts[:cap(ts)])
	for i, u := range out {
		out[i].Coef.L = slices.Clone(u.Coef.L[:cap(u.Coef.L)])
	}
	return out
}

func scribble(ts []api.Term) {
	for i := range ts[:cap(ts)] {
		u := &ts[:cap(ts)][i]
		for j := range u.Coef.L[:cap(u.Coef.L)] {
			u.Coef.L[:cap(u.Coef.L)][j] = mark - 1
		}
		*u = term(mark-1, mark-1)
	}
}

// calls are the calls that answer terms, of one list or of one that stands twice.
func calls() map[string]func(ts []api.Term) []api.Term {
	return map[string]func(ts []api.Term) []api.Term{
		"Norm": func(ts []api.Term) []api.Term { out, _ := sparse.Norm(ts); return out },
		"Add":  func(ts []api.Term) []api.Term { out, _ := sparse.Add(ts, ts, ts); return out },
		"Mul":  func(ts []api.Term) []api.Term { out, _ := sparse.Mul(ts, ts); return out },
		"Mul by 1": func(ts []api.Term) []api.Term {
			out, _ := sparse.Mul(list(1, 0), ts)
			return out
		},
		"Poly": func(ts []api.Term) []api.Term { out, _ := sparse.Poly(ts); return termsOf(out) },
		"Of": func(ts []api.Term) []api.Term {
			var p api.Poly
			for _, u := range ts {
				p = append(p, u.Coef)
			}
			return sparse.Of(p)
		},
		"Eval": func(ts []api.Term) []api.Term {
			v, _ := sparse.Eval(ts, 3, 1000)
			return []api.Term{term(v, 0)}
		},
	}
}

func TestMemory(t *testing.T) {
	for what, ask := range calls() {
		for _, ts := range samples() {
			want := ask(ts)
			x := roomy(ts)
			before := copied(x)
			first, second := ask(x), ask(x)
			if !reflect.DeepEqual(copied(x), before) {
				t.Fatalf("P0.3: %s %s changes what is handed in", what, name(ts))
			}
			scribble(x)
			scribble(first)
			if !reflect.DeepEqual(second, want) {
				t.Fatalf("P0.3: %s %s shares memory", what, name(ts))
			}
			if !areApart(second) {
				t.Fatalf("P0.3: %s %s: two terms share memory", what, name(ts))
			}
		}
	}
}

// areApart writes something else into each term, and looks whether it stays.
func areApart(ts []api.Term) bool {
	for i, u := range ts {
		for j := range u.Coef.L[:cap(u.Coef.L)] {
			u.Coef.L[:cap(u.Coef.L)][j] = uint32(i)
		}
	}
	for i, u := range ts {
		if slices.ContainsFunc(u.Coef.L[:cap(u.Coef.L)], func(w uint32) bool { return w != uint32(i) }) {
			return false
		}
	}
	return true
}
