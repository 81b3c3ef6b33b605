package seq_test

import (
	"math/rand"
	"slices"
	"testing"

	"ashlar/api"
	"ashlar/limbs"
	"ashlar/rat"
	"ashlar/seq"
)

func TestExamples(t *testing.T) {
	fibonacci := api.Op{p(-1), p(-1), p(1)}
	gap := api.Op{p(0, -1), p(-2, 1)}
	for i, c := range []struct {
		a    api.Op
		win  []api.Rat
		want api.Errno
	}{
		{fibonacci, values(0, 1), api.OK}, {fibonacci, values(0), api.ErrUnder},
		{api.Op{p(-1, -1), p(1)}, values(1, 1, 3), api.ErrBreak}, {nil, nil, api.ErrZero},
		{gap, values(1, 0, 0), api.ErrUnder}, {gap, values(1, 0, 0, 7), api.OK},
	} {
		if e := expect(t, c.a, c.win); e != c.want {
			t.Errorf("P11.1: example %d: %d, not %d", i, e, c.want)
		}
	}
	s, _ := seq.Define(gap, values(1, 0, 0, 7))
	if !slices.Equal(s.Singular(), []int{2}) || s.Len() != 4 || !s.Free(3) || s.Free(2) {
		t.Errorf("P11.2: %v, %d", s.Singular(), s.Len())
	}
}

// Windows that fit, that are too short, that are longer than they need be, and
// that break at chance's place.
func TestRandomWindows(t *testing.T) {
	d := rand.New(rand.NewSource(11))
	told := make([]int, 11)
	for range 4000 {
		a := randomOp(d, d.Intn(5))
		win := unrolled(d, a, d.Intn(22))
		if len(win) > 0 && d.Intn(3) == 0 {
			k := d.Intn(len(win))
			win[k] = rat.Add(win[k], over(d.Int63n(5)-2, 3))
		}
		switch d.Intn(4) {
		case 0:
			a = padded(a)
		case 1:
			win = raised(win)
		}
		told[expect(t, a, win)]++
	}
	if told[api.OK] < 500 || told[api.ErrUnder] < 500 || told[api.ErrBreak] < 500 {
		t.Errorf("too few of some kind: %v", told)
	}
}

// Each of the errors stands ahead of those behind it, whatever they are.
func TestErrorsInTheirOrder(t *testing.T) {
	long := make([]api.Rat, 4097)
	broken := values(1, 1, 3)
	heavy := []api.Rat{{Num: bitsOf(1 << 20), Den: limbs.Of(1)}, {}, {Num: limbs.Of(1), Den: limbs.Of(1)}}
	factorial, under := api.Op{p(-1, -1), p(1)}, api.Op{p(-1, -1), at(2)}
	far := slices.Concat(make(api.Op, 257), api.Op{at(9)})
	for i, c := range []struct {
		a    api.Op
		win  []api.Rat
		want api.Errno
	}{
		{nil, long, api.ErrArg}, {far, long, api.ErrArg}, {under, long, api.ErrArg}, {factorial, slices.Concat(broken, long), api.ErrArg},
		{factorial, slices.Concat(heavy, long), api.ErrArg}, {make(api.Op, 900), slices.Concat(heavy, long), api.ErrArg},
		{nil, heavy, api.ErrZero}, {make(api.Op, 900), heavy, api.ErrZero}, {zeroPolys(), broken, api.ErrZero}, {nil, make([]api.Rat, 4096), api.ErrZero},
		{under, heavy, api.ErrBig}, {factorial, heavy, api.ErrBig}, {far, broken, api.ErrBig}, {far, nil, api.ErrBig},
		{under, broken, api.ErrUnder}, {api.Op{p(-1, -1), at(0, 1, 5)}, values(1, 2, 3, 4, 5, 6), api.ErrUnder},
		{factorial, broken, api.ErrBreak},
	} {
		if e := expect(t, c.a, c.win); e != c.want {
			t.Errorf("P11.1, %d: %d, not %d", i, e, c.want)
		}
	}
}

func TestZeroOperators(t *testing.T) {
	for _, z := range zeroOps() {
		for _, win := range [][]api.Rat{nil, {}, values(0), values(1, 2), make([]api.Rat, 4096)} {
			if e := expect(t, z, win); e != api.ErrZero {
				t.Errorf("P11.1: Define of zero: %d", e)
			}
		}
		if n, e := seq.Needs(z); e != api.ErrZero || len(n.L) > 0 || n.Neg {
			t.Errorf("P11.3: Needs of zero: %v, %d", n, e)
		}
	}
}

// Of the order 0 the relation at n is c_0(n) a(n) = 0: all is 0 but at roots.
func TestOrderZero(t *testing.T) {
	for i, c := range []struct {
		a    api.Op
		win  []api.Rat
		want api.Errno
	}{
		{api.Op{p(7)}, nil, api.OK}, {api.Op{p(-1)}, []api.Rat{}, api.OK}, {api.Op{p(7)}, values(0, 0, 0), api.OK},
		{api.Op{p(7)}, values(1), api.ErrBreak}, {api.Op{p(7)}, values(0, 0, 1), api.ErrBreak},
		{api.Op{at(0)}, nil, api.ErrUnder}, {api.Op{at(0)}, values(5), api.OK}, {api.Op{at(0)}, values(5, 1), api.ErrBreak},
		{api.Op{at(3)}, values(0, 0, 0), api.ErrUnder}, {api.Op{at(3)}, values(0, 0, 0, 5), api.OK}, {api.Op{at(3)}, values(0, 0, 0, 0), api.OK},
		{api.Op{at(3)}, values(0, 0, 1, 5), api.ErrBreak}, {api.Op{at(1, 3)}, values(0, -2, 0, 5, 0, 0), api.OK}, {api.Op{at(1, 3)}, values(0, -2, 0, 5, 0, 1), api.ErrBreak},
		{api.Op{at(-1, -3)}, nil, api.OK}, {api.Op{at(-1, -3)}, values(0, 1), api.ErrBreak}, {api.Op{p(1, 0, 1)}, nil, api.OK}, {api.Op{p(-1, 2)}, nil, api.OK},
		{api.Op{p(-1, 2)}, values(0, 1), api.ErrBreak},
	} {
		for _, a := range []api.Op{c.a, padded(c.a)} {
			if e := expect(t, a, c.win); e != c.want {
				t.Errorf("P11.1, %d: %d, not %d", i, e, c.want)
			}
		}
	}
}
