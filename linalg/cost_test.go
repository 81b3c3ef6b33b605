package linalg_test

import (
	"math/big"
	"testing"

	"ashlar/api"
	"ashlar/linalg"
)

// estimate is written from the document's words; m may be handed in.
func estimate(m [][]api.Poly) int {
	degree, most := -1, 0
	for _, row := range toBigMatrix(m) {
		for _, q := range row {
			degree = max(degree, len(q)-1)
			for _, c := range q {
				most = max(most, c.BitLen())
			}
		}
	}
	return boundedProduct(len(m)+1, len(m[0])+1, min(len(m), len(m[0]))+1, degree+2, most+8)
}

func boundedProduct(ns ...int) int {
	out := big.NewInt(1)
	for _, n := range ns {
		out.Mul(out, big.NewInt(int64(n)))
	}
	if out.BitLen() > 62 {
		return 1 << 62
	}
	return int(out.Int64())
}

func TestCost(t *testing.T) {
	for _, m := range append(samples(), long()...) {
		if got := linalg.Cost(m); got != estimate(m) {
			t.Errorf("P7.1: Cost %s: %d, not %d", name(m), got, estimate(m))
		}
	}
	for _, c := range []struct {
		m    [][]api.Poly
		want int
	}{
		{[][]api.Poly{{p(0, 1), p(1)}}, 2 * 3 * 2 * 3 * 9},
		{[][]api.Poly{{p(7, 0, 1)}, {p(0, -16)}, {nil}}, 4 * 2 * 2 * 4 * 13},
		{[][]api.Poly{{nil}}, 2 * 2 * 2 * 1 * 8},
		{[][]api.Poly{{p(1)}}, 2 * 2 * 2 * 2 * 9},
		{zeroMatrix(64, 64), 65 * 65 * 65 * 8},
		{zeroMatrix(64, 1), 65 * 2 * 2 * 8},
		{zeroMatrix(3, 64), 4 * 65 * 4 * 8},
		// The greatest degree and the greatest Bits are of two entries.
		{[][]api.Poly{{p(0, 0, 0, 1), p(255)}}, 2 * 3 * 2 * 5 * 16},
	} {
		if got := linalg.Cost(c.m); got != c.want {
			t.Errorf("P7.1: Cost %s: %d, not %d", name(c.m), got, c.want)
		}
	}
}

func TestGreatCosts(t *testing.T) {
	for _, c := range []struct{ n, degree, bits, want int }{
		{63, 1<<17 - 2, 1<<26 - 8, 1 << 61},
		{63, 1<<18 - 3, 1<<26 - 8, (1<<18 - 1) << 44},
		{63, 1<<18 - 2, 1<<26 - 8, 1 << 62},
		// These are just above, or would wrap to what is below 0, or to 0.
		{63, 1<<18 - 1, 1<<26 - 8, 1 << 62},
		{63, 1<<19 - 2, 1<<26 - 8, 1 << 62},
		{63, 1<<20 - 2, 1<<26 - 8, 1 << 62},
		{64, 1<<20 - 2, 1<<26 - 8, 1 << 62},
		{64, 1<<20 - 7, 1<<26 + 99, 1 << 62},
	} {
		m := sized(c.n, c.n, c.degree, c.bits)
		if got := linalg.Cost(m); got != c.want {
			t.Errorf("P7.1: Cost of %v: %d", c, got)
		}
		expectRefused(t, m, api.ErrBig)
	}
}

// expectRefused holds Det and Null, of a square matrix, against an error.
func expectRefused(t *testing.T, m [][]api.Poly, want api.Errno) {
	t.Helper()
	if d, e := linalg.Det(m); e != want || len(d) > 0 {
		t.Errorf("P7.1: Det of %d rows: %d entries, error %d, not %d", len(m), len(d), e, want)
	}
	expectNoNull(t, m, want)
}

func expectNoNull(t *testing.T, m [][]api.Poly, want api.Errno) {
	t.Helper()
	if v, r, c, e := linalg.Null(m); e != want || len(v)+len(r)+len(c) > 0 {
		t.Errorf("P7.1: Null of %d rows: %d vectors, %v, %v, error %d, not %d", len(m), len(v), r, c, e, want)
	}
}

// expectTaken holds Det, of a square matrix, and Null against no error.
func expectTaken(t *testing.T, m [][]api.Poly) {
	t.Helper()
	if _, e := linalg.Det(m); len(m) == len(m[0]) && e != api.OK {
		t.Errorf("P7.1: Det of %d rows: error %d", len(m), e)
	}
	if _, _, _, e := linalg.Null(m); e != api.OK {
		t.Errorf("P7.1: Null of %d rows: error %d", len(m), e)
	}
}

func TestMaxBits(t *testing.T) {
	for _, c := range []struct{ rows, columns, degree, bits, above int }{
		{3, 3, 14, 1016, 1024}, {7, 7, 2, 504, 2048}, {15, 15, 0, 120, 8192}, {1, 1, 1<<13 - 2, 8, 65536}, {1, 1, 0, 1<<16 - 8, 16},
		{3, 3, 1022, 8, 65536}, {1, 63, 14, 248, 4096}, {63, 1, 30, 120, 8192}, {31, 15, 6, 8, 65536}, {15, 31, 0, 56, 16384},
	} {
		just := sized(c.rows, c.columns, c.degree, c.bits)
		above := sized(c.rows, c.columns, c.degree, c.bits+1)
		if linalg.Cost(just) != api.MaxBits || linalg.Cost(above) != api.MaxBits+api.MaxBits/(c.bits+8) {
			t.Errorf("P7.1: Cost of %v: %d, %d", c, linalg.Cost(just), linalg.Cost(above))
		}
		expectTaken(t, just)
		expectTaken(t, paddedMatrix(just))
		for _, m := range [][][]api.Poly{above, sized(c.rows, c.columns, c.degree+1, c.bits), paddedMatrix(above)} {
			expectNoNull(t, m, api.ErrBig)
			if c.rows == c.columns {
				expectRefused(t, m, api.ErrBig)
			}
		}
	}
	// As near above as can be.
	above := sized(1, 1, 1, 43683)
	if linalg.Cost(above) != api.MaxBits+8 {
		t.Errorf("P7.1: Cost: %d", linalg.Cost(above))
	}
	expectRefused(t, above, api.ErrBig)
	expectRefused(t, zeroMatrix(64, 64), api.ErrBig)
}

func TestWrongMatrices(t *testing.T) {
	for i, m := range wrong() {
		if got := linalg.Cost(m); got != 0 {
			t.Errorf("P7.1: Cost of wrong %d: %d", i, got)
		}
		expectRefused(t, m, api.ErrArg)
		columns := 0
		if len(m) > 0 {
			columns = len(m[0])
		}
		for _, n := range []int{0, 1, columns, len(m)} {
			if v, e := linalg.Times(m, make([]api.Poly, n)); e != api.ErrArg || len(v) > 0 {
				t.Errorf("P7.1: Times of wrong %d: %d entries, error %d", i, len(v), e)
			}
		}
	}
}

func TestDetOfOnesThatAreNotSquare(t *testing.T) {
	for _, m := range [][][]api.Poly{
		{{p(1), p(2)}}, {{p(1)}, {p(2)}}, zeroMatrix(2, 3), zeroMatrix(3, 2), zeroMatrix(64, 63), zeroMatrix(63, 64), zeroMatrix(1, 64),
		// Also too great: ErrArg is told first.
		sized(63, 64, 100, 100), sized(64, 1, 1000, 1000), sized(1, 2, 0, 1<<20),
	} {
		if d, e := linalg.Det(m); e != api.ErrArg || len(d) > 0 {
			t.Errorf("P7.1: Det %s: %d entries, error %d", name(m), len(d), e)
		}
		if linalg.Cost(m) != estimate(m) {
			t.Errorf("P7.1: Cost %s: %d", name(m), linalg.Cost(m))
		}
	}
}
