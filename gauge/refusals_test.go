package gauge_test

import (
	"testing"

	"ashlar/api"
	"ashlar/gauge"
	"ashlar/limbs"
	"ashlar/linalg"
	"ashlar/ore"
	"ashlar/upoly"
)

func rules(t *testing.T) []*ore.Rule {
	t.Helper()
	var out []*ore.Rule
	for _, c := range []struct {
		algebra int
		q       api.Int
	}{{api.Shift, api.Int{}}, {api.Diff, bitsOf(900)}, {api.QShift, limbs.Of(-1)}, {api.QShift, wide(bitsOf(40))}} {
		r, e := ore.New(c.algebra, c.q)
		if e != api.OK {
			t.Fatalf("P8.1: New: error %d", e)
		}
		out = append(out, r)
	}
	return out
}

// refusal is the error that an estimate asks for.
func refusal(estimate int) api.Errno {
	if estimate > api.MaxBits {
		return api.ErrBig
	}
	return api.OK
}

// nearMaxBits gives bits by which an estimate that grows by step for each bit,
// and is least without one, comes to the greatest that is not above MaxBits, to
// the next one, and to some around.
func nearMaxBits(least, step int) []int {
	most := (api.MaxBits - least) / step
	return []int{1, most / 2, most - 1, most, most + 1, most + 2, 2 * most}
}

func TestOreRefusesByTheSameNumbers(t *testing.T) {
	shapes := [][2]int{{0, 0}, {1, 0}, {0, 1}, {3, 1}, {2, 4}, {5, 0}}
	for _, r := range rules(t) {
		q := r.Q()
		for _, c := range shapes {
			for _, d := range shapes {
				b := padded(opOf(d[0], d[1], 1))
				least := gauge.Mul(opOf(c[0], c[1], 1), b, q)
				step := gauge.Mul(opOf(c[0], c[1], 2), b, q) - least
				refused := 0
				for _, bits := range nearMaxBits(least, step) {
					a := opOf(c[0], c[1], 1+bits)
					want := refusal(gauge.Mul(a, b, q))
					if _, e := r.Mul(a, b); e != want {
						t.Errorf("P8.2: Mul of (%v), (%v), estimate %d: error %d", sizeOf(a), sizeOf(b), gauge.Mul(a, b, q), e)
					}
					refused += int(want)
				}
				if refused != 3*int(api.ErrBig) {
					t.Errorf("P9.2: Mul near MaxBits of %v, %v: not as many refused as should be", c, d)
				}
			}
		}
	}
}

func TestOreAppliesByTheSameNumbers(t *testing.T) {
	for _, r := range rules(t) {
		q := r.Q()
		for _, c := range [][2]int{{0, 0}, {1, 0}, {0, 3}, {3, 1}, {7, 2}} {
			for _, f := range []api.Poly{nil, p(1), paddedPoly(p(0, 0, -3)), polyOf(5, 40)} {
				least := gauge.Apply(opOf(c[0], c[1], 1), f, q)
				step := gauge.Apply(opOf(c[0], c[1], 2), f, q) - least
				refused := 0
				for _, bits := range nearMaxBits(least, step) {
					a := opOf(c[0], c[1], 1+bits)
					want := refusal(gauge.Apply(a, f, q))
					if _, e := r.Apply(padded(a), f); e != want {
						t.Errorf("P8.2: Apply of (%v), estimate %d: error %d", sizeOf(a), gauge.Apply(a, f, q), e)
					}
					refused += int(want)
				}
				if refused != 3*int(api.ErrBig) {
					t.Errorf("P9.2: Apply near MaxBits of %v: not as many refused as should be", c)
				}
			}
		}
	}
}

func TestOrePowersByTheSameNumbers(t *testing.T) {
	for _, r := range rules(t) {
		for _, bits := range []int{1, 100, 1 << 13, 1 << 14, 1 << 15} {
			a := opOf(2, 1, bits)
			want, last := api.OK, a
			for n := 2; n <= 4 && want == api.OK; n++ {
				want = refusal(gauge.Mul(last, a, r.Q()))
				if _, e := r.Power(a, n); e != want {
					t.Errorf("P8.2: Power %d of (%v): error %d, not %d", n, sizeOf(a), e, want)
				}
				last, _ = r.Mul(last, a)
			}
		}
	}
}

// The estimate of a matrix is a product that stops as those here do.
func TestLinalgRefusesByTheSameNumbers(t *testing.T) {
	for _, c := range []struct{ rows, degree, bits int }{
		{3, 14, 1015}, {3, 14, 1016}, {3, 14, 1017}, {1, 0, 1<<16 - 8}, {1, 0, 1<<16 - 7}, {7, 2, 504}, {7, 2, 505},
		{63, 1<<18 - 3, 1<<26 - 8}, {63, 1<<18 - 2, 1<<26 - 8}, {63, 1<<18 - 1, 1<<26 - 8}, {64, 1<<20 - 2, 1<<26 - 8},
	} {
		m := make([][]api.Poly, c.rows)
		for i := range m {
			m[i] = make([]api.Poly, c.rows)
			m[i][i] = p(1)
		}
		m[0][0] = polyOf(c.degree, c.bits)
		want := gauge.Times(c.rows+1, c.rows+1, c.rows+1, c.degree+2, c.bits+8)
		if got := linalg.Cost(m); got != want {
			t.Errorf("P7.1: Cost of %v: %d, not %d", c, got, want)
		}
		d, e := linalg.Det(m)
		if e != refusal(want) || e == api.OK && !upoly.Eq(d, m[0][0]) {
			t.Errorf("P7.1: Det of %v: error %d", c, e)
		}
		if _, _, _, e := linalg.Null(m); e != refusal(want) {
			t.Errorf("P7.1: Null of %v: error %d", c, e)
		}
	}
}
