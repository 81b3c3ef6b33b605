package held

import (
	"fmt"
	"slices"
	"testing"

	"ashlar/api"
	"ashlar/limbs"
	"ashlar/rat"
	"ashlar/upoly"
)

func values(ns ...int64) []api.Rat {
	var out []api.Rat
	for _, n := range ns {
		out = append(out, api.Rat{Num: limbs.Of(n), Den: limbs.Of(1)})
	}
	return out
}

// Sequences of any size are held: Define would refuse the last two.
func TestSequencesAreHeld(t *testing.T) {
	huge := api.Int{L: append(make([]uint32, 1<<16), 1)}
	hole := upoly.Mul(upoly.Of(-2, 1), upoly.Of(0, 1)) // (x - 2) x
	for _, c := range []struct {
		op       api.Op
		win      []api.Rat
		singular []int
		free     []int
	}{
		{api.Op{upoly.Of(1)}, nil, nil, nil}, {api.Op{upoly.Of(-1), upoly.Of(-1), upoly.Of(1)}, values(0, 1), nil, nil},
		{api.Op{upoly.Of(5), hole}, values(1, 2, 3, 4), []int{0, 2}, []int{1, 3}}, {api.Op{hole}, values(1, 0, 5, 0), []int{0, 2}, []int{0, 2}},
		{append(make(api.Op, 300), upoly.Of(1)), make([]api.Rat, 300), nil, nil}, {api.Op{api.Poly{huge}, upoly.Of(1)}, []api.Rat{{Num: huge, Den: limbs.Of(1)}}, nil, nil},
	} {
		s := New(c.op, c.win)
		if s.Order() != len(c.op)-1 || s.Len() != len(c.win) || fmt.Sprint(s.Singular()) != fmt.Sprint(c.singular) {
			t.Errorf("held: the order %d, %d values, singular %v", s.Order(), s.Len(), s.Singular())
		}
		for n := -1; n < 6; n++ {
			if s.Free(n) != slices.Contains(c.free, n) {
				t.Errorf("held: free is %d: %v", n, s.Free(n))
			}
		}
		for n, v := range s.Window() {
			if rat.Cmp(v, c.win[n]) != 0 {
				t.Errorf("held: at %d: %v", n, v)
			}
		}
	}
}

func TestNoneIsHeld(t *testing.T) {
	for _, s := range []*Seq{nil, {}} {
		if len(s.Op()) != 1 || !upoly.Eq(s.Op()[0], upoly.Of(1)) || len(s.Window()) != 0 || s.Order() != 0 || s.Len() != 0 || len(s.Singular()) != 0 || s.Free(0) {
			t.Errorf("none: %v, %v", s.Op(), s.Window())
		}
	}
}

// Relations hold or not, whatever the values are over; and values that do not count
// are not asked for.
func TestHolds(t *testing.T) {
	a := api.Op{upoly.Of(-1, 1), upoly.Of(0, 2), upoly.Of(-3, 1)} // (x - 3) S^2 + 2x S + (x - 1)
	half := api.Rat{Num: limbs.Of(1), Den: limbs.Of(2)}
	for _, c := range []struct {
		n     int
		win   []api.Rat
		want  bool
		asked int
	}{
		{0, values(3, 7, -1), true, 2}, {0, values(3, 7, 1), false, 2}, {1, values(9, 3, 3), true, 2}, {1, values(9, 3, 4), false, 2},
		{3, values(3, -1, 8), true, 2}, {3, []api.Rat{half, half, {}}, false, 2}, {2, []api.Rat{half, half, {Num: limbs.Of(5), Den: limbs.Of(2)}}, true, 3},
	} {
		asked := 0
		got := Holds(a, c.n, func(k int) api.Rat { asked++; return c.win[k-c.n] })
		if got != c.want || asked != c.asked {
			t.Errorf("the relation at %d of %v: %v, by %d values", c.n, c.win, got, asked)
		}
	}
	if !IsSingular(a, 3) || IsSingular(a, 0) || Relations(a, values(1, 2, 3)) != 1 || Relations(a, nil) != -2 {
		t.Errorf("singular is 3: %v, 0: %v", IsSingular(a, 3), IsSingular(a, 0))
	}
}
