package unroll_test

import (
	"math"
	"math/rand"
	"testing"

	"ashlar/api"
	"ashlar/limbs"
	"ashlar/seq"
	"ashlar/unroll"
	"ashlar/upoly"
)

// expectHolds asks Holds for what the model says, given the sequence's values up
// to where they are asked for, and tells its answer.
func expectHolds(t *testing.T, s *seq.Seq, a api.Op, n int, vs []api.Rat) (bool, api.Errno) {
	t.Helper()
	m, op := modelOf(s), opToBig(a)
	wantIs, want := false, api.ErrArg
	if n >= 0 {
		want = m.refusal(min(n, 5000) + max(op.order(), 0))
	}
	if want == api.OK {
		wantIs = op.holds(n, vs)
	}
	is, e := unroll.Holds(s, a, n)
	if is != wantIs || e != want {
		t.Errorf("P12.3: Holds(%s, %v, %d): %v, error %d, not %v, %d", m, op, n, is, e, wantIs, want)
	}
	return is, e
}

// someOps are of all orders from -1 on; some hold of many sequences.
func someOps() []api.Op {
	return []api.Op{
		nil, {p(1)}, {p(0, 1)}, {at(1)}, {at(1, 3)}, {p(-1), p(1)}, {p(-1, -1), p(1)}, {p(-1), p(-1), p(1)}, {nil, p(-1), p(-1), p(1)}, {p(1), p(-3), p(3), p(-1)},
		{p(1, 1), p(-3, -2), p(2, 1)}, {nil, p(0, 1)}, {nil, nil, nil, at(4)}, {p(-1), nil, p(1)}, {at(2), nil, nil, at(2), at(2, 2)}, {at(5), at(5, 6)}, append(make(api.Op, 25), p(1)),
	}
}

func TestRelationsOfAllKinds(t *testing.T) {
	told := map[bool]int{}
	for _, c := range plainPairs() {
		s := define(t, c.a, c.win)
		vs := expectTerms(t, s, 60)
		for _, a := range append(someOps(), c.a) {
			for n := range 12 {
				is, _ := expectHolds(t, s, a, n, vs)
				told[is]++
				expectHolds(t, s, padded(a), n, vs)
			}
		}
	}
	if told[true] < 500 || told[false] < 500 {
		t.Errorf("too few of some kind: %v", told)
	}
}

// The sequence's own relation holds behind the window, and at each number within
// it that is not singular; what the window tells of a free index may break it.
func TestOwnRelation(t *testing.T) {
	for _, c := range plainPairs() {
		s := define(t, c.a, c.win)
		for n := range 40 {
			is, e := unroll.Holds(s, c.a, n)
			if free := s.Free(n + s.Order()); e != api.OK || !is && !free {
				t.Errorf("P12.3: the relation of %s at %d: %v, %d", modelOf(s), n, is, e)
			}
		}
	}
	a := api.Op{p(1), at(0)} // At 0 it says that the value is 0.
	for v, want := range []bool{true, false, false} {
		if is, e := unroll.Holds(define(t, a, values(int64(v), 8)), a, 0); is != want || e != api.OK {
			t.Errorf("P12.3: a singular number, the value %d there: %v, %d", v, is, e)
		}
	}
}

// One that differs by little, far out, where the values are long.
func TestRelationsThatFailByLittle(t *testing.T) {
	for _, s := range []*seq.Seq{fibonacci(t), factorials(t), define(t, api.Op{p(-1), p(1, 1)}, values(1)), define(t, api.Op{p(-1), p(-1), p(3)}, values(1, 1))} {
		own := s.Op()
		for _, n := range []int{0, 1, 5, 100, 700, 1500} {
			if is, e := unroll.Holds(s, own, n); !is || e != api.OK {
				t.Errorf("P12.3: the relation of %s at %d: %v, %d", modelOf(s), n, is, e)
			}
			// x - n is 0 at n, and alters nothing; x - n + 1 is 1.
			for shift, want := range []bool{true, false} {
				a := s.Op()
				a[0] = upoly.Add(a[0], p(int64(shift-n), 1))
				if n == 0 && limbs.Sign(s.Window()[0].Num) == 0 {
					want = true // 1 times 0 more
				}
				if is, e := unroll.Holds(s, a, n); is != want || e != api.OK {
					t.Errorf("P12.3: the relation of %s at %d, with x - %d: %v, %d", modelOf(s), n, n-shift, is, e)
				}
			}
		}
	}
}

// Of the zero operator, and of the order 0, n alone must be told.
func TestOrderZeroAndNone(t *testing.T) {
	for _, s := range []*seq.Seq{nil, fibonacci(t), factorials(t), seq.Const(over(1, 2)), seq.Poly(p(0, 1))} {
		for _, a := range zeroOps() {
			for _, n := range []int{0, 1, 7, 4095, 4096} {
				if is, e := unroll.Holds(s, a, n); !is || e != api.OK {
					t.Errorf("P12.3: the zero operator at %d: %v, %d", n, is, e)
				}
			}
			for _, n := range []int{4097, 4098, math.MaxInt} {
				if is, e := unroll.Holds(s, a, n); is || e != api.ErrIndex {
					t.Errorf("P12.3: the zero operator at %d: %v, %d", n, is, e)
				}
			}
		}
	}
	one := seq.Const(over(1, 2))
	for _, a := range []api.Op{{at(4096)}, padded(api.Op{at(4096)}), {at(4096), nil, {}}, append(api.Op{at(4096)}, make(api.Op, 5000)...)} {
		for n, want := range map[int]bool{4096: true, 4095: false, 0: false, 1: false} {
			if is, e := unroll.Holds(one, a, n); is != want || e != api.OK {
				t.Errorf("P12.3: x - 4096 of a constant at %d: %v, %d", n, is, e)
			}
		}
		if is, e := unroll.Holds(one, a, 4097); is || e != api.ErrIndex {
			t.Errorf("P12.3: x - 4096 of a constant at 4097: %v, %d", is, e)
		}
	}
}

// n below 0 is told first, whatever else could be.
func TestBelowZero(t *testing.T) {
	huge := seq.Const(api.Rat{Num: bitsOf(1 << 21), Den: limbs.Of(1)})
	for _, s := range []*seq.Seq{nil, fibonacci(t), huge} {
		for _, a := range append(append(someOps(), zeroOps()...), append(make(api.Op, 4500), p(1))) {
			for _, n := range []int{-1, -2, -4097, math.MinInt} {
				if is, e := unroll.Holds(s, a, n); is || e != api.ErrArg {
					t.Errorf("P12.3: at %d: %v, %d", n, is, e)
				}
			}
		}
		for _, n := range []int{0, 1} {
			want := modelOf(s).refusal(n)
			if _, e := unroll.Holds(s, nil, n); e != want {
				t.Errorf("P12.3: at %d: %d, not %d", n, e, want)
			}
		}
	}
}

// The index n + order: up to 4,096 it is told.
func TestTheGreatestIndexOfRelations(t *testing.T) {
	for _, s := range []*seq.Seq{nil, fibonacci(t), seq.Const(over(-3, 2)), seq.Poly(p(0, 0, 1))} {
		vs, _ := unroll.Terms(s, 4096)
		last, _ := unroll.Term(s, 4096)
		vs = append(vs, last)
		for _, order := range []int{1, 2, 3, 100, 4095, 4096, 4097, 5000} {
			a := make(api.Op, order+1)
			a[0], a[order] = p(-1), p(1)
			for _, n := range []int{4096 - order, 4097 - order, 4095 - order, 0, 1, 4096, 4097, math.MaxInt - order, math.MaxInt} {
				if n >= 0 {
					expectHolds(t, s, a, n, vs)
				}
			}
		}
		for _, n := range []int{4093, 4094, 4095, 4096, math.MaxInt} {
			for _, a := range someOps()[:15] {
				expectHolds(t, s, a, n, vs)
				expectHolds(t, s, padded(a), n, vs)
			}
		}
	}
}

// ErrBig, as Term tells it at n + order, not at n.
func TestRelationsThatAreRefused(t *testing.T) {
	s := seq.Const(api.Rat{Num: bitsOf(20000), Den: limbs.Of(7)})
	end := modelOf(s).count()
	vs := expectTerms(t, s, end-1)
	last, _ := unroll.Term(s, end-1)
	vs = append(vs, last)
	told := map[api.Errno]int{}
	for _, a := range someOps() {
		for n := end - 28; n < end+3; n++ {
			_, e := expectHolds(t, s, a, n, vs)
			told[e]++
		}
	}
	if told[api.OK] == 0 || told[api.ErrBig] == 0 {
		t.Errorf("none of some kind: %v", told)
	}
	// Both could be told: ErrIndex comes first.
	if _, e := unroll.Holds(s, nil, 4097); e != api.ErrIndex {
		t.Errorf("P12.3: at 4097: %d", e)
	}
}

// The relation itself has no limit: long entries, high degrees, many entries.
func TestGreatRelations(t *testing.T) {
	squares := seq.Poly(p(0, 0, 1))
	long := api.Op{{bitsOf(300000)}, {limbs.Neg(bitsOf(300000))}}
	if is, e := unroll.Holds(seq.Const(over(1, 3)), long, 9); !is || e != api.OK {
		t.Errorf("P12.3: long entries: %v, %d", is, e)
	}
	high := api.Op{append(make(api.Poly, 3000), limbs.Of(1)), api.Poly{limbs.Neg(bitsOf(3001))}}
	if is, e := unroll.Holds(seq.Const(over(1, 3)), high, 2); !is || e != api.OK {
		t.Errorf("P12.3: a high degree: %v, %d", is, e)
	}
	// The sum of x^2 from 0 to 999 is 332833500.
	many := make(api.Op, 1000)
	for i := range many {
		many[i] = p(1)
	}
	many[1] = p(1 - 332833500)
	if is, e := unroll.Holds(squares, many, 0); !is || e != api.OK {
		t.Errorf("P12.3: many entries: %v, %d", is, e)
	}
	if is, e := unroll.Holds(squares, many, 1); is || e != api.OK {
		t.Errorf("P12.3: many entries, one further: %v, %d", is, e)
	}
}

func TestRandomRelations(t *testing.T) {
	d := rand.New(rand.NewSource(14))
	told := map[bool]int{}
	for range 200 {
		c := randomPair(d, d.Intn(4))
		s := define(t, c.a, c.win)
		vs := expectTerms(t, s, len(c.win)+30)
		for range 10 {
			var a api.Op
			for range d.Intn(6) {
				a = append(a, randomPoly(d, 2))
			}
			n := d.Intn(len(vs) - 6)
			is, _ := expectHolds(t, s, a, n, vs)
			told[is]++
			// With a last entry that makes up for the others, if it can.
			if rest := opToBig(a).relation(n, vs); limbs.Sign(vs[n+len(a)].Num) != 0 {
				v := vs[n+len(a)]
				up, by := rest.den.Mul(rest.den, bigInt(v.Num)), rest.num.Mul(rest.num, bigInt(v.Den))
				whole := upoly.Scale(p(1), fromBig(up))
				made := api.Op{}
				for _, q := range a {
					made = append(made, upoly.Mul(q, whole))
				}
				made = append(made, api.Poly{fromBig(by.Neg(by))})
				if is, e := expectHolds(t, s, made, n, vs); !is || e != api.OK {
					t.Errorf("P12.3: a relation that was made to hold: %v, %d", is, e)
				}
			}
		}
	}
	if told[false] < 200 {
		t.Errorf("too few of some kind: %v", told)
	}
}
