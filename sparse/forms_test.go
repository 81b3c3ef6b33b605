package sparse_test

import (
	"math"
	"math/rand"
	"slices"

	"ashlar/api"
	"ashlar/limbs"
)

const maxExp = 1 << 30

func term(c int64, exp int) api.Term { return api.Term{Coef: limbs.Of(c), Exp: exp} }

// list gives terms by their Coefs and Exps in turn.
func list(ns ...int) []api.Term {
	var out []api.Term
	for i := 0; i+1 < len(ns); i += 2 {
		out = append(out, term(int64(ns[i]), ns[i+1]))
	}
	return out
}

// zeros are the integer 0 in all its forms.
func zeros() []api.Int {
	return []api.Int{
		{}, {Neg: true}, {L: []uint32{}}, {L: []uint32{0}},
		{Neg: true, L: []uint32{0}}, {Neg: true, L: []uint32{0, 0, 0}},
	}
}

// zeroTerms are terms that say nothing, at all kinds of Exps.
func zeroTerms() []api.Term {
	var out []api.Term
	for i, z := range zeros() {
		out = append(out, api.Term{Coef: z, Exp: []int{0, maxExp, 7, 3, 1, 65536}[i]})
	}
	return out
}

// padded gives the same number with highest limbs that are 0; 0 gets a Neg.
func padded(a api.Int) api.Int {
	return api.Int{Neg: a.Neg || len(a.L) == 0, L: append(slices.Clone(a.L), 0, 0)}
}

func paddedTerms(ts []api.Term) []api.Term {
	var out []api.Term
	for _, t := range ts {
		out = append(out, api.Term{Coef: padded(t.Coef), Exp: t.Exp})
	}
	return out
}

// parted gives the same polynomial, each term being the sum of three.
func parted(ts []api.Term) []api.Term {
	var out []api.Term
	for i, t := range ts {
		part := limbs.Of(int64(1000*i - 3))
		rest := limbs.Sub(t.Coef, limbs.Mul(limbs.Of(2), part))
		out = append(out, api.Term{Coef: part, Exp: t.Exp}, api.Term{Coef: rest, Exp: t.Exp})
		out = slices.Insert(out, 0, api.Term{Coef: part, Exp: t.Exp})
	}
	return out
}

// forms gives the same polynomial in several forms: as it is, in another order,
// with limbs, with terms and with Coefs that say nothing, with like terms.
func forms(ts []api.Term) [][]api.Term {
	back := slices.Clone(ts)
	slices.Reverse(back)
	mixed := slices.Concat(parted(ts), zeroTerms(), paddedTerms(list(5, 9, -5, 9)))
	d := rand.New(rand.NewSource(int64(len(ts))))
	d.Shuffle(len(mixed), func(i, j int) { mixed[i], mixed[j] = mixed[j], mixed[i] })
	return [][]api.Term{ts, back, paddedTerms(ts), parted(ts), slices.Concat(zeroTerms()[:1], ts, zeroTerms()[2:5]), mixed}
}

func parse(s string) api.Int {
	a, e := limbs.Read(s)
	if e != api.OK {
		panic(s)
	}
	return a
}

// numbers are Coefs at the edges of a limb, and long ones.
func numbers() []api.Int {
	out := []api.Int{limbs.Of(1), limbs.Of(-1), limbs.Of(1<<31 - 1), limbs.Of(math.MinInt64), limbs.Of(math.MaxInt64)}
	for _, s := range []string{"4294967295", "-4294967296", "18446744073709551616", "-340282366920938463426481119284349108225"} {
		out = append(out, parse(s))
	}
	long := api.Int{Neg: true, L: slices.Repeat([]uint32{0x9e3779b9, 0, 0xffffffff}, 30)}
	return append(out, long, padded(long), limbs.Neg(long))
}

func random(d *rand.Rand, n, exps, most int) []api.Term {
	var out []api.Term
	for range n {
		t := api.Term{Coef: api.Int{Neg: d.Intn(2) == 0}, Exp: d.Intn(exps)}
		for range d.Intn(most + 1) {
			t.Coef.L = append(t.Coef.L, d.Uint32())
		}
		out = append(out, t)
	}
	return out
}

// samples are lists in normal form and in others; the sum of no two Exps of two
// lists is above 2^30.
func samples() [][]api.Term {
	half := maxExp / 2
	out := [][]api.Term{
		nil, {}, zeroTerms()[2:5], list(1, 0), list(-1, 0), list(1, half), list(0, half), list(7, 3),
		list(1, 1000, 1, 0), list(1, 1000, -1, 0), list(1, 1, 2, 5, -1, 1), list(1, 0, 1, 1, 1, 2, 1, 3),
		list(-1, 3, 1, 2, -1, 1, 1, 0), list(3, 5, -3, 5), list(2, half, 1, half-1, -2, half, 4, 1), list(1, 4, 1, 4, 1, 4),
	}
	var wide []api.Term
	for i, a := range numbers() {
		wide = append(wide, api.Term{Coef: a, Exp: i * i % 7 * 1000})
	}
	out = append(out, wide, paddedTerms(wide))
	d := rand.New(rand.NewSource(6))
	for i := range 8 {
		out = append(out, random(d, 3+5*i, 4+10*i*i, 1+i/2), random(d, 2+3*i, half+1, i/2))
	}
	return out
}

func eachPair(f func(a, b []api.Term)) {
	for _, a := range samples() {
		for _, b := range samples() {
			f(a, b)
		}
	}
}

// outs are lists that may not be handed in, for one Exp alone.
func outs() [][]api.Term {
	var out [][]api.Term
	for _, exp := range []int{-1, math.MinInt, -maxExp, maxExp + 1, 2 * maxExp, math.MaxInt, math.MaxInt - maxExp + 1, 1 << 32} {
		out = append(out,
			list(1, exp), list(0, exp), []api.Term{{Exp: exp}}, []api.Term{{Coef: zeros()[5], Exp: exp}},
			list(1, exp, -1, exp), list(1, 0, 2, 7, 3, exp), list(3, exp, 1, maxExp, 2, 0), list(1, 2, 0, exp, -1, 2))
	}
	return out
}
