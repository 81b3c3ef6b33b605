package ore_test

import (
	"testing"

	"ashlar/api"
	"ashlar/limbs"
	"ashlar/ore"
	"ashlar/upoly"
)

func TestEachOfMethodValues(t *testing.T) {
	for _, k := range kinds() {
		r := ruleOf(t, k)
		for _, a := range samples() {
			sigma, delta := bigOp{}, bigOp{}
			for _, q := range toBigOp(a) {
				sigma, delta = append(sigma, toBig(r.Sigma(polyOf(q)))), append(delta, toBig(r.Delta(polyOf(q))))
			}
			expectOp(t, "P8.3: Each with Sigma", ore.Each(a, r.Sigma), cutOp(sigma))
			expectOp(t, "P8.3: Each with Delta", ore.Each(a, r.Delta), cutOp(delta))
		}
	}
}

func polyOf(q bigPoly) api.Poly {
	var out api.Poly
	for _, c := range q {
		out = append(out, fromBig(c))
	}
	return out
}

func TestEachWithoutAFunction(t *testing.T) {
	for _, a := range samples() {
		expectOp(t, "P8.3: Each of "+name(a...)+" with nil", ore.Each(a, nil), toBigOp(a))
	}
}

// f is asked for each entry of the normal form once, the lowest first: those
// between that are zero too, those at the end not.
func TestHowEachAsks(t *testing.T) {
	for _, a := range samples() {
		var asked []api.Poly
		got := ore.Each(a, func(q api.Poly) api.Poly {
			asked = append(asked, q)
			return p(1, int64(len(asked)))
		})
		expectOp(t, "P8.3: what Each asks of "+name(a...), asked, toBigOp(a))
		var want api.Op
		for i := range asked {
			want = append(want, p(1, int64(i+1)))
		}
		expectOp(t, "P8.3: Each of "+name(a...), got, toBigOp(want))
	}
}

func TestEachWithZeros(t *testing.T) {
	for _, a := range samples() {
		for _, z := range zeroPolys() {
			if got := ore.Each(a, func(api.Poly) api.Poly { return z }); len(got) > 0 {
				t.Errorf("P8.3: Each of %s with zeros: %v", name(a...), got)
			}
		}
	}
	a := api.Op{p(1), nil, p(2), p(3), p(4)}
	got := ore.Each(a, func(q api.Poly) api.Poly {
		if upoly.Eq(q, p(3)) || upoly.Eq(q, p(4)) {
			return zeros()
		}
		return paddedPoly(q)
	})
	expectOp(t, "P8.3: Each that ends with zeros", got, toBigOp(a[:3]))
	got = ore.Each(a, func(q api.Poly) api.Poly {
		if upoly.Deg(q) < 0 {
			return p(7)
		}
		return nil
	})
	expectOp(t, "P8.3: Each that turns zeros round", got, bigOp{nil, toBig(p(7))})
}

// f may answer any form, and one list again and again, and write into it later.
func TestEachWithAListThatChanges(t *testing.T) {
	var list api.Poly
	got := ore.Each(api.Op{p(5), nil, p(0, 6)}, func(q api.Poly) api.Poly {
		if list == nil {
			list = api.Poly{{L: []uint32{0, 0}}, {Neg: true, L: []uint32{0}}, {L: []uint32{9, 0}}, {}}
		}
		list[0].L[0] = uint32(10 + len(q))
		return list
	})
	list[0].L[0], list[2].L[0] = 77, 77
	expectOp(t, "P8.4: Each", got, toBigOp(api.Op{p(11, 0, 9), p(10, 0, 9), p(12, 0, 9)}))
}

// f may keep what it is handed and write into it.
func TestEachWithAFunctionThatWrites(t *testing.T) {
	for _, a := range append(plain(), padded(plain()[13])) {
		before := toBigOp(a)
		var kept []api.Poly
		got := ore.Each(a, func(q api.Poly) api.Poly {
			kept = append(kept, q)
			return q
		})
		for _, q := range kept {
			scribble(q)
		}
		expectOp(t, "P8.4: Each with a function that writes", got, before)
		if !isOp(ore.Norm(a), before) {
			t.Errorf("P8.4: Each: what is handed in has changed")
		}
	}
}

// scribble writes into all of a polynomial's memory.
func scribble(q api.Poly) {
	q = q[:cap(q)]
	for i := range q {
		l := q[i].L[:cap(q[i].L)]
		for j := range l {
			l[j] = 0xabad1dea
		}
		q[i] = limbs.Of(-12345)
	}
}

func TestEachWithAFunctionThatAsks(t *testing.T) {
	a := api.Op{p(1, 1), nil, p(0, 3)}
	r := ruleOf(t, few()[0])
	got := ore.Each(a, func(q api.Poly) api.Poly {
		inner := ore.Each(a, func(s api.Poly) api.Poly { return upoly.Mul(s, q) })
		return upoly.Add(ore.Lead(inner), r.Sigma(q))
	})
	expectOp(t, "P8.3: Each within Each", got, toBigOp(api.Op{p(2, 4, 3), nil, p(3, 3, 9)}))
}

// No call panics, whatever it is given.
func TestEachWithAFunctionThatPanics(t *testing.T) {
	for _, at := range []int{1, 2, 3} {
		asked := 0
		got := ore.Each(api.Op{p(1), nil, p(3)}, func(q api.Poly) api.Poly {
			if asked++; asked == at {
				panic("a fault of its own")
			}
			return q
		})
		if len(got) > 0 || asked != at {
			t.Errorf("P0.1: Each with a function that panics at %d: %v", at, got)
		}
	}
}
