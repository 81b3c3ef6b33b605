package rat_test

import (
	"math/big"
	"math/rand"
	"slices"
	"testing"

	"ashlar/api"
	"ashlar/limbs"
	"ashlar/rat"
)

// The oracle of these tests is math/big, which the program itself may not use.

func bigInt(a api.Int) *big.Int {
	x, ok := new(big.Int).SetString(limbs.Text(a), 10)
	if !ok {
		panic("no number: " + limbs.Text(a))
	}
	return x
}

func bigRat(a api.Rat) *big.Rat {
	if limbs.Sign(a.Den) == 0 {
		return new(big.Rat)
	}
	return new(big.Rat).SetFrac(bigInt(a.Num), bigInt(a.Den))
}

func parse(s string) api.Int {
	a, e := limbs.Read(s)
	if e != api.OK {
		panic("no number: " + s)
	}
	return a
}

// isInt tells whether an answer is a number, in normal form.
func isInt(got api.Int, want *big.Int) bool {
	a := parse(want.String())
	return got.Neg == a.Neg && slices.Equal(got.L, a.L)
}

// expect tells whether an answer is a number, in normal form: big.Rat keeps
// lowest terms over a Den above 0, and zero as 0 over 1.
func expect(t *testing.T, what string, got api.Rat, want *big.Rat) {
	t.Helper()
	if !isInt(got.Num, want.Num()) || !isInt(got.Den, want.Denom()) {
		t.Errorf("%s: %v over %v, not %s", what, got.Num, got.Den, want)
	}
}

func expectError(t *testing.T, what string, got api.Rat, e, want api.Errno) {
	t.Helper()
	if e != want {
		t.Errorf("%s: error %d, not %d", what, e, want)
	}
	expect(t, what, got, new(big.Rat))
}

// padded gives the same number with highest limbs that are 0.
func padded(a api.Int) api.Int {
	return api.Int{Neg: a.Neg, L: append(slices.Clone(a.L), 0, 0)}
}

// zeros are the integer 0 in all its forms.
func zeros() []api.Int {
	return []api.Int{
		{}, {Neg: true}, {L: []uint32{}}, {L: []uint32{0}},
		{Neg: true, L: []uint32{0}}, {Neg: true, L: []uint32{0, 0, 0}},
	}
}

// forms gives num over den (not 0) in several forms.
func forms(num, den api.Int) []api.Rat {
	out := []api.Rat{{Num: num, Den: den}, {Num: padded(num), Den: padded(den)}}
	for _, s := range []string{"-1", "6", "-18446744073709551616", "99999999999999999999999"} {
		k := parse(s)
		out = append(out, api.Rat{Num: limbs.Mul(num, k), Den: limbs.Mul(den, k)})
	}
	return out
}

// samples are numbers at the edges, in normal form and in others.
func samples() []api.Rat {
	var out []api.Rat
	for _, z := range zeros() {
		out = append(out, api.Rat{Num: z, Den: limbs.Of(-3)})
		out = append(out, api.Rat{Num: limbs.Of(5), Den: z}, api.Rat{Num: z, Den: z})
	}
	parts := []string{"1", "2", "3", "6", "4294967295", "4294967296", "9223372036854775807", "18446744073709551616"}
	for i, num := range parts {
		for j, den := range parts {
			// Each pair in one sign and one form, so that all come about and
			// the pairs of samples stay few.
			a := parse(num)
			if (i+j)%2 == 1 {
				a = limbs.Neg(a)
			}
			fs := forms(a, parse(den))
			out = append(out, fs[(3*i+j)%len(fs)])
		}
	}
	d := rand.New(rand.NewSource(5))
	for range 6 {
		out = append(out, api.Rat{Num: random(d), Den: random(d)})
	}
	return out
}

func random(d *rand.Rand) api.Int {
	a := api.Int{Neg: d.Intn(2) == 0}
	for range 1 + d.Intn(40) {
		a.L = append(a.L, d.Uint32())
	}
	return a
}

func eachPair(f func(a, b api.Rat)) {
	as := samples()
	for _, a := range as {
		for _, b := range as {
			f(a, b)
		}
	}
}

func name(a api.Rat) string { return limbs.Text(a.Num) + " over " + limbs.Text(a.Den) }

func of(t *testing.T, num, den int64) api.Rat {
	t.Helper()
	a, e := rat.Of(num, den)
	if e != api.OK {
		t.Fatalf("Of(%d, %d): error %d", num, den, e)
	}
	return a
}
