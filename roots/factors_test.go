package roots_test

import (
	"fmt"
	"math/big"
	"slices"
	"testing"

	"ashlar/api"
	"ashlar/limbs"
	"ashlar/roots"
	"ashlar/upoly"
)

func TestFactorExamples(t *testing.T) {
	if k, e := roots.Times(upoly.Of(0, 0, 0, 1), limbs.Of(0)); k != 3 || e != api.OK {
		t.Errorf("P4.2: Times x^3: %d, %d", k, e)
	}
	q, e := roots.Without(upoly.Of(0, 0, -1, 1), limbs.Of(0))
	expectPoly(t, fmt.Sprintf("P4.2: Without x^3 - x^2, error %d", e), q, upoly.Of(-1, 1))
	expectPoly(t, "P4.2: With 2, 2", roots.With(upoly.Of(1), limbs.Of(2), limbs.Of(2)), upoly.Of(4, -4, 1))
}

// places are roots of rootLists, and others.
func places() []*big.Int {
	return wholes("0 1 -1 2 -2 3 5 -5 7 12 131 10^40 10^40+1 -10^40 2^32 -2^64 10^30 -10^500+1 10^500")
}

func count(xs []*big.Int, x *big.Int) int {
	n := 0
	for _, y := range xs {
		if x.Cmp(y) == 0 {
			n++
		}
	}
	return n
}

func drop(xs []*big.Int, gone ...*big.Int) []*big.Int {
	return slices.DeleteFunc(slices.Clone(xs), func(x *big.Int) bool { return count(gone, x) > 0 })
}

func TestTimes(t *testing.T) {
	eachKnown(func(rest api.Poly, xs []*big.Int, p api.Poly) {
		for i, x := range places() {
			form := forms(p)[i%4]
			for _, at := range []api.Int{fromBig(x), padded(fromBig(x))} {
				if k, e := roots.Times(form, at); k != count(xs, x) || e != api.OK {
					t.Errorf("P4.2: Times of %s and %s at %s: %d, %d", short(fmt.Sprint(xs)), names(rest), x, k, e)
				}
			}
		}
	})
}

func TestTimesOften(t *testing.T) {
	for _, x := range wholes("0 1 -1 2 -10^20") {
		p := times(upoly.Of(-1, 2), slices.Repeat([]*big.Int{x}, 60)...)
		if k, e := roots.Times(p, fromBig(x)); k != 60 || e != api.OK {
			t.Errorf("P4.2: Times at %s: %d, %d", x, k, e)
		}
	}
}

func TestWithout(t *testing.T) {
	eachKnown(func(rest api.Poly, xs []*big.Int, p api.Poly) {
		lists := [][]*big.Int{nil, places(), once(xs), slices.Concat(xs, xs)}
		for i, x := range places() {
			lists = append(lists, []*big.Int{x}, []*big.Int{x, x}, []*big.Int{x, places()[(i+4)%9]})
		}
		for i, gone := range lists {
			args := fromBigs(gone)
			if i%2 == 1 {
				args = paddedAll(args)
			}
			q, e := roots.Without(forms(p)[i%4], args...)
			what := fmt.Sprint("P4.2: Without ", gone, " of ", xs, " and ", names(rest), ", error ", e)
			expectPoly(t, short(what), q, times(rest, drop(xs, gone...)...))
			if e != api.OK {
				t.Error(short(what))
			}
		}
	})
}

func TestWith(t *testing.T) {
	eachKnown(func(rest api.Poly, xs []*big.Int, p api.Poly) {
		what := short(fmt.Sprint("P4.2: With ", xs, " of ", names(rest)))
		for _, form := range forms(rest) {
			expectPoly(t, what, roots.With(form, fromBigs(xs)...), p)
			expectPoly(t, what, roots.With(form, paddedAll(fromBigs(xs))...), p)
		}
		// In whatever order, and to what has roots already.
		back := slices.Clone(xs)
		slices.Reverse(back)
		twice := times(p, xs...)
		expectPoly(t, what, roots.With(p, fromBigs(back)...), twice)
	})
}

func TestFactorsOfZeroForms(t *testing.T) {
	lists := [][]api.Int{nil, {}, zeros(), {limbs.Of(3)}, {limbs.Of(3), limbs.Of(3), {}}, fromBigs(places())}
	for _, p := range zeroForms() {
		for _, xs := range lists {
			if q, e := roots.Without(p, xs...); len(q) != 0 || e != api.ErrZero {
				t.Errorf("P4.2: Without of zero: %v, %d", q, e)
			}
			if q := roots.With(p, xs...); len(q) != 0 {
				t.Errorf("P4.2: With of zero: %v", q)
			}
			for _, x := range xs {
				if k, e := roots.Times(p, x); k != 0 || e != api.ErrZero {
					t.Errorf("P4.2: Times of zero: %d, %d", k, e)
				}
			}
		}
	}
}

func TestZeroAsARootInAllItsForms(t *testing.T) {
	p := upoly.Of(0, 0, -6, 2)
	for _, z := range zeros() {
		if k, e := roots.Times(p, z); k != 2 || e != api.OK {
			t.Errorf("P4.2: Times at 0: %d, %d", k, e)
		}
		q, _ := roots.Without(p, z)
		expectPoly(t, "P4.2: Without 0", q, upoly.Of(-6, 2))
		expectPoly(t, "P4.2: With 0", roots.With(p, z), upoly.Of(0, 0, 0, -6, 2))
	}
}

// Where a program reckons modulo 2^32 or 2^64 such an x looks like a root.
func TestTimesAtWhatIsNearlyARoot(t *testing.T) {
	for _, x := range wholes("2^32 2^64 -2^64+5 2^32+5 5+2^63") {
		p := times(upoly.Of(-3, 1), big.NewInt(5), big.NewInt(0))
		if k, e := roots.Times(p, fromBig(x)); k != 0 || e != api.OK {
			t.Errorf("P4.2: Times at %s: %d, %d", x, k, e)
		}
		q, _ := roots.Without(p, fromBig(x))
		expectPoly(t, "P4.2: Without", q, p)
	}
}
