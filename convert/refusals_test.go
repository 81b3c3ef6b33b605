package convert_test

import (
	"testing"

	"ashlar/api"
	"ashlar/convert"
	"ashlar/gauge"
	"ashlar/held"
	"ashlar/limbs"
	"ashlar/ore"
	"ashlar/seq"
)

// greatest gives the greatest number with which an estimate is not above MaxBits.
func greatest(cost func(n int) int) int {
	low, high := 0, 1<<21
	for low < high {
		if middle := (low + high + 1) / 2; cost(middle) <= api.MaxBits {
			low = middle
		} else {
			high = middle - 1
		}
	}
	return low
}

func turn(r, d, bits int) int { return product(r+d+2, r+d+2, r+d+2, d+2, bits+8) }

// Estimates that are 2^20, or as near as they come, are told, and with a bit more
// they are not: of sequences and of equations.
func TestBitsAtTheLimit(t *testing.T) {
	for r := range 9 {
		for d := range 9 {
			most := greatest(func(bits int) int { return turn(r, d, bits) })
			for more := -1; most > 1 && more < 3; more++ {
				a := opOf(r, d, most+more)
				expectRefusal(t, a, more > 0)
				expectRefusal(t, padded(a), more > 0)
			}
		}
	}
}

// expectRefusal asks for the equation of a sequence of zeros by this operator, and
// for the recurrence of it.
func expectRefusal(t *testing.T, a api.Op, want bool) {
	t.Helper()
	if got := gauge.Turn(a, nil) > api.MaxBits; got != want || turnOf(opToBig(a)) > api.MaxBits != want {
		t.Fatalf("the test: the estimate %d", gauge.Turn(a, nil))
	}
	s := held.New(ore.Norm(a), zeroValues(ore.Order(a)))
	if e := expectDiff(t, s, 3); (e == api.ErrBig) != want {
		t.Errorf("P16.1: of the size %v: %d", gauge.Of(a), e)
	}
	if e := expectShift(t, a); (e == api.ErrBig) != want {
		t.Errorf("P16.2: of the size %v: %d", gauge.Of(a), e)
	}
	if _, e := expectSolve(t, a, nil); (e == api.ErrBig) != want {
		t.Errorf("P16.3: of the size %v: %d", gauge.Of(a), e)
	}
}

// The same by the order, and by the degree.
func TestSizesAtTheLimit(t *testing.T) {
	for _, bits := range []int{1, 2, 30, 900} {
		for n := range 6 {
			order := greatest(func(r int) int { return turn(r, n, bits) })
			for more := -1; order > 0 && more < 3; more++ {
				expectRefusal(t, opOf(order+more, n, bits), more > 0)
			}
			degree := greatest(func(d int) int { return turn(n, d, bits) })
			for more := -1; degree > 0 && more < 3; more++ {
				expectRefusal(t, opOf(n, degree+more, bits), more > 0)
			}
		}
	}
	for _, a := range []api.Op{opOf(5000, 0, 1), opOf(0, 5000, 1), opOf(1<<16, 3, 9), opOf(0, 0, 1<<22)} {
		expectRefusal(t, a, true)
	}
}

// A window of 64 values is told, one of 65 is not; what Define takes of it says
// nothing of the estimate.
func TestWindowsAtTheLimit(t *testing.T) {
	for _, c := range []pair{
		{api.Op{p(-1), p(-1), p(1)}, values(0, 1)}, {api.Op{p(-1), p(1, 1)}, values(1)}, {api.Op{p(4)}, nil}, {api.Op{nil, p(1)}, values(3)},
		{api.Op{p(-1), p(1)}, zeroValues(1)}, filled(api.Op{p(0, -1), at(2)}, 4, values(1, 0, 0, 7)), {api.Op{p(0, 1), nil, p(3)}, values(2, 5)},
	} {
		for length := 62; length < 68; length++ {
			s := c.longer(length - len(c.win)).define(t)
			if e := expectDiff(t, s, 5); (e == api.ErrBig) != (length > 64) || s.Len() != length {
				t.Errorf("P16.1: of %d values: %d", length, e)
			}
		}
	}
	for _, root := range []int64{0, 5, 62, 63, 64, 65, 2000} {
		s := pair{api.Op{at(root)}, append(zeroValues(int(root)), over(1, 2))}.define(t)
		if e := expectDiff(t, s, int(root)+5); (e == api.ErrBig) != (root > 63) {
			t.Errorf("P16.1: of the free index %d: %d", root, e)
		}
	}
	huge := api.Rat{Num: bitsOf(1 << 21), Den: limbs.Of(3)}
	for _, s := range []*seq.Seq{seq.Const(huge), held.New(api.Op{p(-1), p(0, 1)}, []api.Rat{huge, huge})} {
		if d, e := convert.ToDiff(s); e != api.OK || ore.Order(d) < 0 {
			t.Errorf("P16.1: of a value of many bits: %d", e)
		}
	}
}

// Polynomials, constants and operators of the order 0 are refused by the estimate
// alone, too.
func TestPolynomialsAtTheLimit(t *testing.T) {
	for degree := range 40 {
		expectDiff(t, seq.Poly(power(degree)), 5)
	}
}
