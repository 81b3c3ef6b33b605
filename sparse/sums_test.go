package sparse_test

import (
	"fmt"
	"math/big"
	"math/rand"
	"slices"
	"testing"

	"ashlar/api"
	"ashlar/limbs"
	"ashlar/sparse"
)

func expectNorm(t *testing.T, ts []api.Term, want bigPoly) {
	t.Helper()
	got, e := sparse.Norm(ts)
	expect(t, "P6.1: Norm "+name(ts), got, e, want)
}

func expectAdd(t *testing.T, want bigPoly, lists ...[]api.Term) {
	t.Helper()
	what := "P6.1: Add"
	for _, ts := range lists[:min(4, len(lists))] {
		what += " " + name(ts)
	}
	got, e := sparse.Add(lists...)
	expect(t, what, got, e, want)
}

func TestNormExamples(t *testing.T) {
	for _, c := range []struct{ ts, want []api.Term }{
		{list(1, 1, 2, 5, -1, 1), list(2, 5)},
		{nil, nil},
		{[]api.Term{}, nil},
		{list(0, 3), nil},
		{list(0, 0, 0, maxExp), nil},
		{zeroTerms(), nil},
		{list(1, 7, -1, 7), nil},
		{list(1, 7, 1, 7, -2, 7), nil},
		{list(1, 0, 1, maxExp), list(1, maxExp, 1, 0)},
		{list(4, maxExp, 1, 3, -4, maxExp), list(1, 3)},
		{list(1, 2, 3, 4, 5, 6), list(5, 6, 3, 4, 1, 2)},
		{list(1, 2, 1, 2, 1, 2, 1, 2, 1, 2), list(5, 2)},
		{list(0, maxExp, 2, 3), list(2, 3)},
	} {
		for _, ts := range [][]api.Term{c.ts, paddedTerms(c.ts)} {
			got, e := sparse.Norm(ts)
			same := slices.EqualFunc(got, c.want, func(a, b api.Term) bool { return a.Exp == b.Exp && is(a.Coef, bigInt(b.Coef)) })
			if !same || e != api.OK {
				t.Errorf("P6.1: Norm %s: %s, error %d, not %s", name(ts), name(got), e, name(c.want))
			}
		}
	}
}

func TestNorm(t *testing.T) {
	for _, ts := range samples() {
		for _, f := range forms(ts) {
			expectNorm(t, f, bigSum(ts))
		}
		normal, _ := sparse.Norm(ts)
		expectNorm(t, normal, bigSum(ts))
	}
}

func TestNormOfLongCoefsThatCancel(t *testing.T) {
	for _, a := range numbers() {
		ts := []api.Term{{Coef: a, Exp: 9}, term(1, 4), {Coef: padded(limbs.Neg(a)), Exp: 9}}
		expectNorm(t, ts, bigPoly{4: big.NewInt(1)})
		expectNorm(t, append(ts, term(-1, 9)), bigPoly{4: big.NewInt(1), 9: big.NewInt(-1)})
	}
}

func TestAddExample(t *testing.T) {
	one := big.NewInt(1)
	expectAdd(t, bigPoly{0: one, 1: one, 2: one}, list(1, 1), list(1, 0, 1, 2))
}

func TestAddOfNone(t *testing.T) {
	got, e := sparse.Add()
	expect(t, "P6.1: Add of none", got, e, nil)
	expectAdd(t, nil, nil)
	expectAdd(t, nil, nil, []api.Term{}, nil)
	expectAdd(t, nil, zeroTerms(), zeroTerms(), list(0, maxExp))
}

func TestAdd(t *testing.T) {
	eachPair(func(a, b []api.Term) { expectAdd(t, bigSum(a, b), a, b) })
	for _, a := range samples() {
		expectAdd(t, bigSum(a), a)
		for _, f := range forms(a) {
			expectAdd(t, bigSum(a, list(1, 4, 7, maxExp)), list(7, maxExp), f, list(1, 4))
		}
	}
	expectAdd(t, bigSum(samples()...), samples()...)
}

func TestAddThatCancels(t *testing.T) {
	for _, a := range samples() {
		var minus []api.Term
		for _, u := range a {
			minus = append(minus, api.Term{Coef: limbs.Neg(u.Coef), Exp: u.Exp})
		}
		for _, f := range forms(minus) {
			expectAdd(t, nil, a, f)
			expectAdd(t, nil, slices.Concat(a, f))
			expectAdd(t, bigSum(list(2, 3, 1, maxExp)), f, list(1, maxExp, 2, 3), a)
		}
	}
}

func TestAddOfSeveral(t *testing.T) {
	all := samples()
	d := rand.New(rand.NewSource(61))
	for range 100 {
		d.Shuffle(len(all), func(i, j int) { all[i], all[j] = all[j], all[i] })
		some := all[:d.Intn(len(all))]
		expectAdd(t, bigSum(some...), some...)
		// One list of all their terms is the same polynomial.
		expectNorm(t, slices.Concat(some...), bigSum(some...))
	}
}

func TestAddOfManyLists(t *testing.T) {
	d := rand.New(rand.NewSource(62))
	var lists [][]api.Term
	for i := range 20000 {
		lists = append(lists, random(d, i%4, 3000, 1))
	}
	expectAdd(t, bigSum(lists...), lists...)
}

// A long number among many like terms is not copied for each of them: that would
// take minutes here.
func TestNormOfALongCoefAmongMany(t *testing.T) {
	const n = 300000
	ts := slices.Repeat(list(1, 5), n)
	ts[n/3].Coef.L = slices.Repeat([]uint32{0xffffffff}, n)
	got, e := sparse.Norm(ts)
	if e != api.OK || len(got) != 1 || got[0].Exp != 5 {
		t.Fatalf("P6.1: Norm: %d terms, error %d", len(got), e)
	}
	// 2^(32 n) - 1 and n - 1 times 1.
	want := make([]uint32, n+1)
	want[0], want[n] = n-2, 1
	if got[0].Coef.Neg || !slices.Equal(got[0].Coef.L, want) {
		t.Errorf("P6.1: Norm of 2^(32 n) - 1 and n - 1 times 1, like terms, for n = %d", n)
	}
}

func TestSumsOfExpsThatAreOut(t *testing.T) {
	for _, ts := range outs() {
		got, e := sparse.Norm(ts)
		expectError(t, "P6.1: Norm "+name(ts), got, e, api.ErrArg)
		for i, lists := range [][][]api.Term{{ts}, {nil, ts}, {ts, ts}, {list(1, 2), ts, list(1, maxExp)}, {ts, nil, list(2, 0)}} {
			got, e := sparse.Add(lists...)
			expectError(t, fmt.Sprintf("P6.1: Add %s (%d)", name(ts), i), got, e, api.ErrArg)
		}
	}
}

func TestSumsOfExpsThatAreNotOut(t *testing.T) {
	for _, exp := range []int{0, 1, 65535, 65536, maxExp - 1, maxExp} {
		expectNorm(t, list(3, exp), bigPoly{exp: big.NewInt(3)})
		expectNorm(t, list(0, exp), nil)
		expectAdd(t, bigPoly{exp: big.NewInt(-3)}, list(-4, exp), nil, list(1, exp))
	}
}
