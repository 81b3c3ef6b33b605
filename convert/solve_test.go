package convert_test

import (
	"math/rand"
	"testing"

	"ashlar/api"
	"ashlar/convert"
	"ashlar/limbs"
	"ashlar/ore"
	"ashlar/rat"
	"ashlar/seq"
)

// expectSolve holds Solve against ToShift and Define.
func expectSolve(t *testing.T, a api.Op, win []api.Rat) (*seq.Seq, api.Errno) {
	t.Helper()
	r, want := convert.ToShift(a)
	var by *seq.Seq
	if want == api.OK {
		by, want = seq.Define(r, win)
	}
	s, e := convert.Solve(a, win)
	if e != want || (s == nil) != (e != api.OK) {
		t.Errorf("P16.3: Solve(%v), of %d values: %d, not %d", opToBig(a), len(win), e, want)
		return nil, e
	}
	if s != nil && (!ore.Eq(s.Op(), by.Op()) || !sameValues(s.Window(), by.Window()) || !sameValues(s.Window(), win)) {
		t.Errorf("P16.3: Solve(%v): %s, not %s", opToBig(a), modelOf(s), modelOf(by))
	}
	return s, e
}

func sameValues(v, w []api.Rat) bool {
	if len(v) != len(w) {
		return false
	}
	for i := range v {
		if rat.Cmp(v[i], w[i]) != 0 {
			return false
		}
	}
	return true
}

// Known equations have the series that are known, from few values on.
func TestSolve(t *testing.T) {
	for _, c := range series() {
		for _, a := range c.equals {
			r, e := convert.ToShift(a)
			if e != api.OK {
				t.Fatalf("P16.2: %s: %d", c.name, e)
			}
			needs, _ := seq.Needs(r)
			length, _ := limbs.Small(needs)
			for _, more := range []int64{0, 1, 9} {
				var win []api.Rat
				for n := range length + more {
					win = append(win, fromBigRat(c.value(int(n))))
				}
				s, e := expectSolve(t, a, win)
				if e != api.OK {
					t.Errorf("P16.3: %s by %v, of %d values: %d", c.name, opToBig(a), len(win), e)
					continue
				}
				for n, v := range modelOf(s).values(60) {
					if v.Cmp(c.value(n)) != 0 {
						t.Errorf("P16.3: %s by %v: at %d: %s", c.name, opToBig(a), n, v)
						break
					}
				}
			}
		}
	}
}

func TestExampleOfSolve(t *testing.T) {
	s, e := convert.Solve(api.Op{p(-1), p(1)}, values(1))
	if e != api.OK || !ore.Eq(s.Op(), api.Op{p(-1), p(1, 1)}) {
		t.Fatalf("P16.3: %s, %d", modelOf(s), e)
	}
	for n, want := range []string{"1", "1", "1/2", "1/6", "1/24"} {
		if v := rat.Text(fromBigRat(modelOf(s).values(5)[n])); v != want {
			t.Errorf("P16.3: at %d: %s, not %s", n, v, want)
		}
	}
}

// There and back: a sequence's equation, solved with enough of its values, is the
// sequence.
func TestThereAndBack(t *testing.T) {
	d := rand.New(rand.NewSource(165))
	all := []*seq.Seq{nil, seq.Const(over(3, 7)), seq.Poly(p(1, 0, 2)), seq.Poly(nil), fibonacci(t), factorials(t), inverses(t)}
	for _, c := range append(plainPairs(), pairsOfNoOrder()...) {
		all = append(all, c.define(t))
	}
	for i := range 300 {
		all = append(all, randomPair(d, i%4).define(t))
	}
	solved := 0
	for _, s := range all {
		a, e := convert.ToDiff(s)
		if e != api.OK {
			continue
		}
		r, e := convert.ToShift(a)
		if e == api.ErrBig {
			continue
		}
		m := modelOf(s)
		needs, _ := seq.Needs(r)
		length, _ := limbs.Small(needs)
		for _, more := range []int{0, 3} {
			var win []api.Rat
			for _, v := range m.values(int(length) + more) {
				win = append(win, fromBigRat(v))
			}
			back, e := expectSolve(t, a, win)
			if e != api.OK {
				t.Errorf("P16.3: of (%s): %d, by %v with %d values", m, e, opToBig(a), len(win))
				continue
			}
			want := m.values(60)
			for n, v := range modelOf(back).values(60) {
				if v.Cmp(want[n]) != 0 {
					t.Errorf("P16.3: of (%s) and back, at %d: %s, not %s", m, n, v, want[n])
					break
				}
			}
			solved++
		}
	}
	if solved < 400 {
		t.Errorf("too many are refused: %d are solved", solved)
	}
}

// ToShift's errors come ahead of Define's, and these in their order.
func TestErrorsOfSolve(t *testing.T) {
	tall := api.Op{{bitsOf(1 << 20)}, p(1)} // Turn is too great.
	exp := api.Op{p(-1), p(1)}
	long := make([]api.Rat, 4097)
	heavy := []api.Rat{{Num: bitsOf(1 << 20), Den: limbs.Of(1)}}
	hole := api.Op{p(-4), p(0, 1)} // x D - 4: the entry x - 4, so 4 is free.
	broken := values(1, 1, 3)
	for i, c := range []struct {
		a    api.Op
		win  []api.Rat
		want api.Errno
	}{
		{nil, long, api.ErrZero}, {nil, heavy, api.ErrZero}, {make(api.Op, 5), broken, api.ErrZero}, {tall, long, api.ErrBig}, {tall, nil, api.ErrBig}, {tall, broken, api.ErrBig},
		{exp, long, api.ErrArg}, {hole, long, api.ErrArg}, {exp, heavy, api.ErrBig}, {exp, append(heavy, broken...), api.ErrBig}, {hole, heavy, api.ErrBig},
		{exp, nil, api.ErrUnder}, {hole, values(0, 0, 0, 0), api.ErrUnder}, {hole, values(1), api.ErrUnder}, {hole, values(0, 0, 1, 0, 5), api.ErrBreak}, {exp, broken, api.ErrBreak},
		{exp, values(1, 1), api.OK}, {hole, values(0, 0, 0, 0, 5), api.OK}, {hole, values(0, 0, 0, 0, 5, 0), api.OK}, {api.Op{p(7)}, nil, api.OK},
		{api.Op{p(7)}, values(0, 1), api.ErrBreak}, {exp, make([]api.Rat, 4096), api.OK},
	} {
		for _, a := range []api.Op{c.a, padded(c.a)} {
			if _, e := expectSolve(t, a, c.win); e != c.want {
				t.Errorf("P16.3: %d: %d, not %d", i, e, c.want)
			}
		}
		expectSolve(t, c.a, raised(c.win))
	}
}

func TestSolveOfRandomOperators(t *testing.T) {
	d := rand.New(rand.NewSource(166))
	told := make([]int, 7)
	for range 2000 {
		var win []api.Rat
		for range d.Intn(9) {
			win = append(win, over(d.Int63n(3)-1, 1))
		}
		if d.Intn(3) == 0 {
			win = zeroValues(d.Intn(12))
		}
		_, e := expectSolve(t, randomOp(d, 3, 3), win)
		told[e]++
	}
	for _, e := range []api.Errno{api.OK, api.ErrZero, api.ErrUnder, api.ErrBreak} {
		if told[e] < 100 {
			t.Errorf("too few of the error %d: %v", e, told)
		}
	}
}
