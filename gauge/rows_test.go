package gauge_test

import (
	"math"
	"testing"

	"ashlar/api"
	"ashlar/gauge"
	"ashlar/limbs"
)

// row is a row of the table.
type row struct {
	name string
	got  func(g given) int
	want func(g given) int
}

func (r row) expect(t *testing.T, g given) {
	t.Helper()
	if got, want := r.got(g), r.want(g); got != want {
		t.Errorf("P9.2: %s of %v: %d, not %d", r.name, g, got, want)
	}
}

func mulRow() row {
	return row{"Mul", func(g given) int { return gauge.Mul(g.a, g.b, g.q) }, wantMul}
}

func applyRow() row {
	return row{"Apply", func(g given) int { return gauge.Apply(g.a, g.f, g.q) }, wantApply}
}

func divideRow() row {
	return row{"Divide", func(g given) int { return gauge.Divide(g.a, g.b, g.q) }, wantDivide}
}

func commonRow() row {
	return row{"Common", func(g given) int { return gauge.Common(g.a, g.b, g.q) }, wantCommon}
}

func termRow() row {
	return row{"Term", func(g given) int { return gauge.Term(g.a, g.wa, g.n) }, wantTerm}
}

func closeRow() row {
	return row{"Close", func(g given) int { return gauge.Close(g.a, g.b, g.wa, g.wb) }, wantClose}
}

func turnRow() row {
	return row{"Turn", func(g given) int { return gauge.Turn(g.a, g.wa) }, wantTurn}
}

func cauchyRow() row {
	return row{"Cauchy", func(g given) int { return gauge.Cauchy(g.a, g.b, g.wa, g.wb) }, wantCauchy}
}

func TestMulDivideCommon(t *testing.T) {
	for _, a := range ops() {
		for _, b := range ops() {
			for _, q := range qs() {
				for _, r := range []row{mulRow(), divideRow(), commonRow()} {
					r.expect(t, given{a: a, b: b, q: q})
				}
			}
		}
	}
}

func TestApply(t *testing.T) {
	for _, a := range ops() {
		for _, f := range polys() {
			for _, q := range qs() {
				applyRow().expect(t, given{a: a, f: f, q: q})
			}
		}
	}
}

// indices are such as Term may be handed.
func indices() []int {
	return []int{
		math.MinInt, math.MinInt + 1, -1 << 40, -2, -1, 0, 1, 2, 3, 4, 7, 8, 255, 256, 4096, 4097, 1<<31 - 1, 1 << 31,
		1 << 53, 1<<54 - 1, 1 << 54, top/8 - 1, top - 2, top - 1, top, top + 1, math.MaxInt - 1, math.MaxInt,
	}
}

func TestTermAndTurn(t *testing.T) {
	for _, a := range ops() {
		for _, win := range windows() {
			turnRow().expect(t, given{a: a, wa: win})
			for _, n := range []int{-1, 0, 9, 1 << 40} {
				termRow().expect(t, given{a: a, wa: win, n: n})
			}
		}
		for _, win := range fewWindows() {
			for _, n := range indices() {
				termRow().expect(t, given{a: a, wa: win, n: n})
			}
		}
	}
}

func TestCloseAndCauchy(t *testing.T) {
	for _, a := range ops() {
		for _, b := range ops() {
			for _, wa := range fewWindows() {
				for _, wb := range fewWindows() {
					closeRow().expect(t, given{a: a, b: b, wa: wa, wb: wb})
					cauchyRow().expect(t, given{a: a, b: b, wa: wa, wb: wb})
				}
			}
		}
	}
	for _, a := range []api.Op{nil, {p(1)}, {nil, p(0, 1)}} {
		for _, wa := range windows() {
			for _, wb := range windows() {
				closeRow().expect(t, given{a: a, b: a, wa: wa, wb: wb})
				cauchyRow().expect(t, given{a: a, b: a, wa: wa, wb: wb})
			}
		}
	}
}

// The table once more, in numbers that are written out.
func TestRowsWrittenOut(t *testing.T) {
	s, x := api.Op{nil, p(1)}, api.Op{p(1, 1)}
	a := api.Op{p(0, 0, 0, 1), p(-1024), p(3)} // order 2, degree 3, bits 11
	b := api.Op{p(5), p(0, 9)}                 // order 1, degree 1, bits 4
	f, q := p(0, 0, -17), limbs.Of(-100)       // degree 2, bits 5; bits 7
	one, half := []api.Rat{ratOf(2)}, []api.Rat{{Num: limbs.Of(3), Den: limbs.Of(6)}, {}}
	none := api.Int{}
	for i, c := range []struct{ got, want int }{
		{gauge.Mul(s, x, none), 84},
		{gauge.Mul(a, b, q), 3 * 2 * 6 * (11 + 4 + 3*2 + 2*2*7 + 8)},
		{gauge.Mul(b, a, q), 2 * 3 * 6 * (11 + 4 + 2*4 + 1*4*7 + 8)},
		{gauge.Mul(nil, nil, none), 1 * 1 * 2 * (1 + 8)},
		{gauge.Apply(a, f, q), 3 * (3 + 2 + 3) * (11 + 5 + 3*4*15)},
		{gauge.Apply(a, nil, none), 3 * (3 - 1 + 3) * (11 + 3*1*8)},
		{gauge.Apply(nil, nil, none), 1 * 2 * (1 * 1 * 8)},
		{gauge.Divide(a, b, q), 3 * 2 * 5 * 6 * (11 + 4 + 3*9 + 8)},
		{gauge.Divide(b, a, q), 2 * 3 * 5 * 6 * (11 + 4 + 2*9 + 8)},
		{gauge.Divide(nil, nil, none), 1 * 1 * 2 * 2 * (2 + 8)},
		{gauge.Common(a, b, q), 5 * 5 * 5 * (5*4 + 2) * (11 + 4 + 4*9 + 8)},
		{gauge.Common(nil, nil, none), 2 * 2 * 2 * 2 * (2 + 8)},
		{gauge.Term(a, one, 10), 11 * 3 * (11 + 4*5 + 8)},
		{gauge.Term(a, nil, 0), 1 * 3 * (11 + 4*1 + 8)},
		{gauge.Term(a, nil, -1), 1 * 3 * (11 + 4*1 + 8)},
		{gauge.Term(nil, nil, math.MinInt), 9},
		{gauge.Term(nil, []api.Rat{ratOf(300)}, 5), 6 * 301},
		{gauge.Close(a, b, one, half), 6 * 6 * 6 * (6*4 + 1) * (11 + 4 + 8)},
		{gauge.Close(nil, nil, nil, nil), 8},
		{gauge.Close(nil, nil, one, half), 4 * (2 + 3 + 1)},
		{gauge.Turn(a, one), 7 * 7 * 7 * 5 * 19},
		{gauge.Turn(nil, nil), 2 * 2 * 2 * 2 * 8},
		{gauge.Turn(nil, make([]api.Rat, 100000)), 2 * 2 * 2 * 2 * 8},
		{gauge.Cauchy(a, b, one, half), 8 * 8 * 8 * (8 * 9) * (11 + 4 + 8)},
		{gauge.Cauchy(nil, nil, nil, nil), 2 * 8},
		{gauge.Cauchy(nil, nil, one, half), 4 * (2 + 3 + 1)},
	} {
		if c.got != c.want {
			t.Errorf("P9.2, %d: %d, not %d", i, c.got, c.want)
		}
	}
}
