package sparse_test

import (
	"math/big"
	"math/rand"
	"slices"
	"testing"

	"ashlar/api"
	"ashlar/sparse"
)

func expectMul(t *testing.T, a, b []api.Term, want bigPoly) {
	t.Helper()
	got, e := sparse.Mul(a, b)
	expect(t, "P6.1: Mul "+name(a)+" and "+name(b), got, e, want)
}

// expectNoMul holds both orders of two lists against an error.
func expectNoMul(t *testing.T, a, b []api.Term, want api.Errno) {
	t.Helper()
	got, e := sparse.Mul(a, b)
	expectError(t, "P6.1: Mul "+name(a)+" and "+name(b), got, e, want)
	got, e = sparse.Mul(b, a)
	expectError(t, "P6.1: Mul "+name(b)+" and "+name(a), got, e, want)
}

func TestMulExamples(t *testing.T) {
	expectMul(t, list(1, 1000, 1, 0), list(1, 1000, -1, 0), bigSum(list(1, 2000, -1, 0)))
	expectNoMul(t, list(1, maxExp), list(1, 1), api.ErrBig)
}

func TestMul(t *testing.T) {
	eachPair(func(a, b []api.Term) { expectMul(t, a, b, bigProduct(a, b)) })
	for i, a := range samples() {
		b := samples()[(5*i+3)%len(samples())]
		for _, f := range forms(a) {
			// Some forms have a term at 2^30 that says nothing.
			if slices.ContainsFunc(f, func(u api.Term) bool { return u.Exp > maxExp/2 }) {
				continue
			}
			expectMul(t, f, b, bigProduct(a, b))
			expectMul(t, b, f, bigProduct(a, b))
		}
	}
}

func TestMulInAnyForm(t *testing.T) {
	a, b := list(5, 900, -3, 40, 2, 7, 11, 0), list(-1, 860, 6, 53, 1, 33, 4, 1)
	for _, f := range forms(a) {
		for _, g := range forms(b) {
			f, g := slices.DeleteFunc(slices.Clone(f), isGreat), slices.DeleteFunc(slices.Clone(g), isGreat)
			expectMul(t, f, g, bigProduct(a, b))
		}
	}
}

func isGreat(u api.Term) bool { return u.Exp == maxExp }

func TestMulWithNone(t *testing.T) {
	many := slices.Repeat(list(1, 3), api.MaxBits+1)
	for _, z := range [][]api.Term{nil, {}} {
		for _, b := range [][]api.Term{nil, {}, list(1, 0), list(1, maxExp), many} {
			expectMul(t, z, b, nil)
			expectMul(t, b, z, nil)
		}
	}
	for _, z := range [][]api.Term{list(0, 4), zeroTerms()[2:5], list(1, 2, -1, 2)} {
		expectMul(t, z, list(5, 6, 1, 0), nil)
		expectMul(t, list(5, 6, 1, 0), z, nil)
	}
}

// Products of telescopes have two terms alone: all others cancel.
func TestMulThatCancels(t *testing.T) {
	for _, n := range []int{1, 2, 50, 700} {
		for _, step := range []int{1, 3, 700000} {
			var tower []api.Term
			for i := range n {
				tower = append(tower, term(1, step*i))
			}
			expectMul(t, tower, list(1, step, -1, 0), bigSum(list(1, n*step, -1, 0)))
			expectMul(t, list(-1, 0, 1, step), tower, bigSum(list(1, n*step, -1, 0)))
		}
	}
}

func TestMulOfLikeAndUnlikeTerms(t *testing.T) {
	d := rand.New(rand.NewSource(64))
	for _, c := range []struct{ m, n, exps, limbs int }{{40, 40, 30, 2}, {1, 300, 1000, 1}, {300, 2, 90, 3}, {80, 80, maxExp / 2, 1}, {60, 5, 8, 40}} {
		a, b := random(d, c.m, c.exps, c.limbs), random(d, c.n, c.exps, c.limbs)
		expectMul(t, a, b, bigProduct(a, b))
	}
}

func TestMulOfGreatExps(t *testing.T) {
	one := big.NewInt(1)
	half := maxExp / 2
	for _, c := range []struct{ a, b int }{{maxExp, 0}, {0, maxExp}, {half, half}, {1, maxExp - 1}, {half + 5, half - 5}} {
		expectMul(t, list(1, c.a), list(1, c.b), bigPoly{maxExp: one})
		expectMul(t, list(2, 0, 1, c.a, -2, 0), list(1, c.b), bigPoly{maxExp: one})
		expectNoMul(t, list(1, c.a, 1, c.a+1), list(1, c.b), errAbove(c.a+1))
		expectNoMul(t, list(1, 0, 1, c.a), list(1, c.b, 1, c.b+1, 5, 0), errAbove(c.b+1))
	}
	expectNoMul(t, list(1, maxExp), list(1, maxExp), api.ErrBig)
}

// errAbove tells what a list with such an Exp meets, if the sum is too great too.
func errAbove(exp int) api.Errno {
	if exp > maxExp {
		return api.ErrArg
	}
	return api.ErrBig
}

// A term counts, whatever its Coef is and whatever cancels it.
func TestMulOfGreatExpsThatSayNothing(t *testing.T) {
	half := maxExp / 2
	for _, z := range zeros() {
		expectNoMul(t, []api.Term{{Coef: z, Exp: maxExp}}, list(1, 1), api.ErrBig)
		expectNoMul(t, []api.Term{term(1, 0), {Coef: z, Exp: half + 1}}, list(1, half), api.ErrBig)
		expectNoMul(t, []api.Term{{Coef: z, Exp: half + 1}}, []api.Term{{Coef: z, Exp: half}}, api.ErrBig)
		expectMul(t, []api.Term{term(3, 2), {Coef: z, Exp: half}}, list(1, half), bigPoly{half + 2: big.NewInt(3)})
	}
	expectNoMul(t, list(1, half+1, 2, 0, -1, half+1), list(1, half), api.ErrBig)
	expectMul(t, list(1, half, 2, 0, -1, half), list(1, half), bigPoly{half: big.NewInt(2)})
}

// apart gives n terms of 1, with step between their Exps.
func apart(n, step int) []api.Term {
	var out []api.Term
	for i := range n {
		out = append(out, term(1, i*step))
	}
	return out
}

func TestMulOfLongLists(t *testing.T) {
	for _, c := range []struct{ m, n int }{{1, 1<<20 + 1}, {2, 1<<19 + 1}, {1024, 1025}, {1<<20 + 1, 1<<20 + 1}, {1023, 1026}} {
		expectNoMul(t, apart(c.m, 0), apart(c.n, 0), api.ErrBig)
	}
	// As handed in: it does not help that all of them are one term, or none.
	expectNoMul(t, list(1, 1), slices.Repeat(list(0, 0), 1<<20+1), api.ErrBig)
	expectNoMul(t, slices.Repeat(list(1, 1, -1, 1), 513), slices.Repeat(list(0, 0), 1024), api.ErrBig)
	like, e := sparse.Mul(slices.Repeat(list(2, 3), 1024), slices.Repeat(list(1, 4), 1024))
	expect(t, "P6.1: Mul of 1,024 and 1,024 like terms", like, e, bigPoly{7: big.NewInt(1 << 21)})
	long, e := sparse.Mul(apart(1<<20, 1000), list(-7, 5))
	if e != api.OK || len(long) != 1<<20 || long[0].Exp != 1000*(1<<20-1)+5 || !is(long[1].Coef, big.NewInt(-7)) {
		t.Errorf("P6.1: Mul of 2^20 terms and 1: %d terms, error %d", len(long), e)
	}
}

// 1,024 by 1,024 terms, none like and all like: with no sum of two Exps twice, and
// with each as often as it can be.
func TestMulOfTheLongestLists(t *testing.T) {
	wide, e := sparse.Mul(apart(1024, 1), apart(1024, 1024))
	if e != api.OK || len(wide) != 1<<20 {
		t.Fatalf("P6.1: Mul: %d terms, error %d", len(wide), e)
	}
	one := big.NewInt(1)
	for i, u := range wide {
		if u.Exp != 1<<20-1-i || !is(u.Coef, one) {
			t.Fatalf("P6.1: Mul: %s at %d", name(wide[i:i+1]), i)
		}
	}
	want := bigPoly{}
	for i := range 2047 {
		want[i] = big.NewInt(int64(min(i+1, 2047-i)))
	}
	expectMul(t, apart(1024, 1), apart(1024, 1), want)
}

func TestMulOfExpsThatAreOut(t *testing.T) {
	many := apart(1<<20+1, 0)
	for _, ts := range outs() {
		// The last of these are too great or too long as well.
		for _, b := range [][]api.Term{nil, {}, list(1, 2), list(0, 2), ts, list(1, maxExp), many} {
			expectNoMul(t, ts, b, api.ErrArg)
		}
	}
}
