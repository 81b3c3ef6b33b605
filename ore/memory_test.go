package ore_test

import (
	"math/big"
	"testing"

	"ashlar/api"
	"ashlar/limbs"
	"ashlar/ore"
)

// A rule keeps nothing that New is handed, and hands out nothing that it keeps.
func TestARulesOwnMemory(t *testing.T) {
	q := api.Int{L: []uint32{3, 5, 0}}
	want := bigInt(q)
	r, e := ore.New(api.QShift, q)
	if e != api.OK {
		t.Fatalf("P8.1: New: error %d", e)
	}
	q.L[0], q.L[1], q.L[2] = 9, 9, 9
	first := r.Q()
	if !isInt(first, want) {
		t.Errorf("P8.4: q has changed with what New was handed: %v", first)
	}
	scribble(api.Poly{first})
	scribble(r.Sigma(p(0, 1)))
	out, _ := r.Mul(api.Op{nil, p(1)}, api.Op{p(0, 1)})
	scribble(out[1])
	out, _ = r.Power(api.Op{nil, p(1)}, 1)
	scribble(out[1])
	g, _ := r.Apply(api.Op{nil, p(1)}, p(0, 1))
	scribble(g)
	if !isInt(r.Q(), want) {
		t.Errorf("P8.4: q has changed with what was answered: %v", r.Q())
	}
	expectPoly(t, "P8.4: Sigma", r.Sigma(p(0, 1)), bigPoly{new(big.Int), want})
}

// Two rules know nothing of one another.
func TestRulesSideBySide(t *testing.T) {
	x, letter := api.Op{p(0, 1)}, api.Op{nil, p(1)}
	two, three := ruleOf(t, kind{api.QShift, limbs.Of(2)}), ruleOf(t, kind{api.QShift, limbs.Of(3)})
	shift, diff := ruleOf(t, few()[0]), ruleOf(t, few()[1])
	for range 2 {
		for i, c := range []struct {
			r    *ore.Rule
			want api.Op
		}{{two, api.Op{nil, p(0, 2)}}, {shift, api.Op{nil, p(1, 1)}}, {three, api.Op{nil, p(0, 3)}}, {diff, api.Op{p(1), p(0, 1)}}} {
			expectOp(t, "P8.2: Mul of rule "+string(rune('0'+i)), mul(t, c.r, letter, x), toBigOp(c.want))
		}
	}
}

// Whoever writes into an answer changes nothing that a later call answers.
func TestAnswersOwnMemory(t *testing.T) {
	for _, k := range few() {
		r := ruleOf(t, k)
		for _, a := range small() {
			before := toBigOp(a)
			product, _ := r.Mul(a, a)
			power, _ := r.Power(a, 1)
			one, _ := r.Power(a, 0)
			unit, _ := r.Mul(api.Op{p(1)}, a)
			for _, b := range []api.Op{
				product, power, one, unit, ore.Norm(a), ore.Add(a, nil), ore.Sub(a, nil), ore.Add(nil, a), ore.Scale(p(1), a), ore.Prim(a), ore.Each(a, nil),
				{ore.Lead(a)}, {ore.Content(a)}, {r.Sigma(entryOf(a))}, {r.Delta(entryOf(a))},
			} {
				for _, q := range b[:cap(b)] {
					scribble(q)
				}
			}
			if !isOp(ore.Norm(a), before) {
				t.Errorf("P8.4: %s has changed", name(a...))
			}
		}
	}
}

func entryOf(a api.Op) api.Poly {
	if len(a) == 0 {
		return nil
	}
	return a[len(a)-1]
}
