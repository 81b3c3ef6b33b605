package seq_test

import (
	"math/rand"
	"slices"
	"testing"

	"ashlar/api"
	"ashlar/limbs"
	"ashlar/rat"
)

// One relation fails, each of them in turn, and by how little: what breaks at a
// number that is not singular is refused, what breaks at a singular one is not.
func TestOneRelationAlone(t *testing.T) {
	d := rand.New(rand.NewSource(3))
	few := []api.Rat{over(1, 1), over(-1, 1), {Num: limbs.Of(1), Den: bitsOf(90)}, {Num: bitsOf(90), Den: limbs.Of(7)}}
	for _, a := range []api.Op{
		{p(-1, -1), p(1)}, {p(-1), p(-1), p(1)}, {p(1), p(0, 2), nil, p(1, 1)}, {p(0, -1), at(2)}, {p(-1, 1), p(2), at(0, 5, 9)},
		{p(3), at(4, 4, -2)}, {p(1, 0, -1), p(2), at(3, 4, 5, 6)}, {at(3), nil, p(5, 1)}, {nil, p(-2), p(1)},
	} {
		m := modelOf(a, nil)
		const length = 14
		for n := range length - m.order() {
			for _, by := range few {
				win := failing(d, m, n, by, length)
				want := api.ErrBreak
				if m.isSingular(n) {
					want = api.OK
				}
				if e := expect(t, a, win); e != want {
					t.Errorf("P11.1: %s, where %d alone fails: %d, not %d", m, n, e, want)
				}
			}
		}
	}
}

// failing gives a window in which the relation at n alone does not hold, but for
// singular numbers.
func failing(d *rand.Rand, m model, n int, by api.Rat, length int) []api.Rat {
	var out []api.Rat
	m.win = nil
	for k := range length {
		v := over(d.Int63n(9)-4, 1)
		if at := k - m.order(); at >= 0 && !m.isSingular(at) {
			v = fromBigRat(m.forced(at))
			if at == n {
				v = rat.Add(v, by)
			}
		}
		out, m.win = append(out, v), append(m.win, bigRat(v))
	}
	return out
}

// Relations are looked at within the window alone, and all of them: the last one
// too.
func TestTheLastValueOfTheWindow(t *testing.T) {
	factorial := api.Op{p(-1, -1), p(1)}
	win := values(1)
	for n := int64(1); n < 40; n++ {
		last := win[len(win)-1]
		win = append(win, rat.Mul(last, over(n, 1)))
		if e := expect(t, factorial, win); e != api.OK {
			t.Fatalf("P11.1: factorials up to %d: %d", n, e)
		}
		broken := slices.Concat(win[:n], []api.Rat{rat.Add(win[n], over(1, 5))})
		if e := expect(t, factorial, broken); e != api.ErrBreak {
			t.Errorf("P11.1: factorials, the %d-th another: %d", n, e)
		}
	}
}

// Denominators that have nothing in common, and such as have much.
func TestRationals(t *testing.T) {
	third := over(1, 3)
	// Harmonic numbers: (x + 2) S^2 - (2x + 3) S + (x + 1), with 0, 1, 3/2.
	harmonic := api.Op{p(1, 1), p(-3, -2), p(2, 1)}
	win := values(0)
	for n := int64(1); n < 60; n++ {
		win = append(win, rat.Add(win[n-1], over(1, n)))
	}
	if e := expect(t, harmonic, win); e != api.OK {
		t.Errorf("P11.1: harmonic numbers: %d", e)
	}
	for k := range win {
		other := slices.Clone(win)
		other[k] = rat.Add(other[k], third)
		if e := expect(t, harmonic, other); e != api.ErrBreak {
			t.Errorf("P11.1: harmonic numbers, the %d-th another: %d", k, e)
		}
	}
	// A sum of numbers over great primes that is 0, or just not.
	all := api.Op{p(1), p(1), p(1), p(1), p(1)}
	parts := []api.Rat{over(1, 1<<61-1), over(-5, 1<<31-1), over(7, 1<<19-1), over(3, 1<<17-1)}
	sum := rat.Add(rat.Add(parts[0], parts[1]), rat.Add(parts[2], parts[3]))
	for _, c := range []struct {
		more api.Rat
		want api.Errno
	}{{api.Rat{}, api.OK}, {over(1, 1<<61-1), api.ErrBreak}, {api.Rat{Num: limbs.Of(-1), Den: bitsOf(200)}, api.ErrBreak}} {
		last := rat.Add(rat.Sub(api.Rat{}, sum), c.more)
		if e := expect(t, all, append(slices.Clone(parts), last)); e != c.want {
			t.Errorf("P11.1: a sum of rationals: %d, not %d", e, c.want)
		}
	}
}

// Numbers that are 0 in the low limbs, or the same there, are not the same.
func TestGreatValues(t *testing.T) {
	power := func(n int) api.Rat { return api.Rat{Num: bitsOf(n + 1), Den: limbs.Of(1)} }
	double := api.Op{p(-2), p(1)}
	var win []api.Rat
	for n := range 60 {
		win = append(win, power(n+3000))
	}
	if e := expect(t, double, win); e != api.OK {
		t.Errorf("P11.1: powers of 2: %d", e)
	}
	for k := range win {
		for _, by := range []api.Rat{over(1, 1), over(-1, 1), power(3000), {Num: limbs.Of(1), Den: bitsOf(3000)}} {
			other := slices.Clone(win)
			other[k] = rat.Add(other[k], by)
			if e := expect(t, double, other); e != api.ErrBreak {
				t.Errorf("P11.1: powers of 2, the %d-th another: %d", k, e)
			}
		}
	}
}
