package euclid_test

import (
	"reflect"
	"testing"

	"ashlar/api"
	"ashlar/euclid"
	"ashlar/ore"
)

// answer is all that the calls of this package answer for two operators, the
// errors too.
type answer struct {
	C                              api.Poly
	Q, S                           api.Op
	Divides                        bool
	Common                         api.Common
	Multiple                       api.Multiple
	Divide, Asked, Found, Gathered api.Errno
}

func answerOf(r *ore.Rule, a, b api.Op) answer {
	var out answer
	out.C, out.Q, out.S, out.Divide = euclid.Divide(r, a, b)
	out.Divides, out.Asked = euclid.Divides(r, b, a)
	out.Common, out.Found = euclid.Common(r, a, b)
	out.Multiple, out.Gathered = euclid.Multiple(r, a, b)
	return out
}

// lists are all the operators of an answer.
func (w answer) lists() []api.Op {
	c, m := w.Common, w.Multiple
	return []api.Op{{w.C}, w.Q, w.S, c.G, c.S, c.T, {c.Left}, c.U, c.V, {c.AL}, {c.BL}, m.L, m.U, m.V}
}

// scribble writes into all memory of an operator, its spare room too.
func scribble(a api.Op) {
	a = a[:cap(a)]
	for i, p := range a {
		p = p[:cap(p)]
		for j, c := range p {
			words := c.L[:cap(c.L)]
			for n := range words {
				words[n] ^= 0x5a5a5a5a
			}
			p[j].Neg = !c.Neg
			p[j].L = nil
		}
		a[i] = nil
	}
}

// copied gives a in memory of its own, in the same form.
func copied(a api.Op) api.Op {
	out := make(api.Op, len(a))
	for i, p := range a {
		out[i] = make(api.Poly, len(p))
		for j, c := range p {
			out[i][j] = api.Int{Neg: c.Neg, L: append(make([]uint32, 0, len(c.L)), c.L...)}
		}
	}
	return out
}

// memoryPairs are pairs of which some have zero, one or itself as an answer.
func memoryPairs() [][2]api.Op {
	out := [][2]api.Op{{nil, {p(0, 2), p(4)}}, {{p(0, 2), p(4)}, nil}, {{p(1)}, {p(1)}}, {{p(0, 3)}, {p(1)}}, {{nil, p(1)}, {p(1)}}}
	some := plain()
	for i, a := range some {
		out = append(out, [2]api.Op{a, a}, [2]api.Op{a, some[(i+5)%len(some)]}, [2]api.Op{padded(a), some[(i+9)%len(some)]})
	}
	return out
}

// What is handed in is neither changed nor kept.
func TestArgumentsAreLeftAlone(t *testing.T) {
	for _, k := range few() {
		r := ruleOf(t, k)
		for _, pair := range memoryPairs() {
			a, b := copied(pair[0]), copied(pair[1])
			got := answerOf(r, a, b)
			if !reflect.DeepEqual(a, copied(pair[0])) || !reflect.DeepEqual(b, copied(pair[1])) {
				t.Fatalf("P10.4: %v: %s or %s has changed", k, name(pair[0]), name(pair[1]))
			}
			scribble(a)
			scribble(b)
			if want := answerOf(r, pair[0], pair[1]); !reflect.DeepEqual(got, want) {
				t.Errorf("P10.4: %v: an answer for %s and %s has changed with what was handed in", k, name(pair[0]), name(pair[1]))
			}
		}
	}
}

// Whoever writes into one list of an answer changes no other, and no later answer.
func TestAnswersOwnMemory(t *testing.T) {
	for _, k := range few() {
		r := ruleOf(t, k)
		for _, pair := range memoryPairs() {
			want := answerOf(r, pair[0], pair[1])
			count := len(want.lists())
			for i := range count {
				got := answerOf(r, pair[0], pair[1])
				scribble(got.lists()[i])
				for j, list := range got.lists() {
					if j != i && !ore.Eq(list, want.lists()[j]) {
						t.Errorf("P10.4: %v: of %s and %s: the lists %d and %d share memory", k, name(pair[0]), name(pair[1]), i, j)
					}
				}
			}
			if again := answerOf(r, pair[0], pair[1]); !reflect.DeepEqual(again, want) {
				t.Errorf("P10.4: %v: %s and %s have another answer later", k, name(pair[0]), name(pair[1]))
			}
		}
	}
}

// An operator is read as what it says: its form changes no answer.
func TestFormsSayNothing(t *testing.T) {
	for _, k := range kinds() {
		r := ruleOf(t, k)
		for i, a := range plain() {
			b := plain()[(3*i+7)%len(plain())]
			want := answerOf(r, a, b)
			for _, other := range [][2]api.Op{{padded(a), b}, {a, padded(b)}, {padded(a), padded(b)}} {
				if got := answerOf(r, other[0], other[1]); !reflect.DeepEqual(got, want) {
					t.Errorf("P10.4: %v: %s and %s in another form have another answer", k, name(a), name(b))
				}
			}
		}
	}
}

// A rule that has answered answers as a new one does, and rules know nothing of
// one another.
func TestAnswersHangOnArgumentsAlone(t *testing.T) {
	var rules []*ore.Rule
	for _, k := range kinds() {
		rules = append(rules, ruleOf(t, k))
	}
	for i, a := range plain() {
		b := plain()[(5*i+3)%len(plain())]
		for j, k := range kinds() {
			if !reflect.DeepEqual(answerOf(rules[j], a, b), answerOf(ruleOf(t, k), a, b)) {
				t.Errorf("P10.4: %v: %s and %s have another answer with another rule", k, name(a), name(b))
			}
		}
	}
}
