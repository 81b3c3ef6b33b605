package sparse_test

import (
	"math/big"
	"math/rand"
	"slices"
	"testing"

	"ashlar/api"
	"ashlar/limbs"
	"ashlar/sparse"
	"ashlar/upoly"
)

// termsOf gives all entries of p as terms, the zeros too.
func termsOf(p api.Poly) []api.Term {
	var out []api.Term
	for i, c := range p {
		out = append(out, api.Term{Coef: c, Exp: i})
	}
	return out
}

func polys() []api.Poly {
	out := []api.Poly{
		nil, {}, zeros(), zeros()[3:4], upoly.Of(1), upoly.Of(-1), upoly.Of(0, 1), upoly.Of(1, 0, 2), upoly.Of(0, 0, -3),
		upoly.Of(1, 2, 3, 4), append(upoly.Of(5, 0, 7), zeros()...), append(zeros(), limbs.Of(8)), numbers(), append(numbers(), zeros()...),
	}
	d := rand.New(rand.NewSource(65))
	for i := range 8 {
		p := make(api.Poly, 4*i*i)
		for _, u := range random(d, 3*i, len(p)+1, 1+i/2) {
			p[min(u.Exp, len(p)-1)] = u.Coef
		}
		out = append(out, p)
	}
	return out
}

func TestOf(t *testing.T) {
	for _, p := range polys() {
		expect(t, "P6.2: Of", sparse.Of(p), api.OK, bigSum(termsOf(p)))
	}
	got := sparse.Of(upoly.Of(1, 0, 0, 2))
	expect(t, "P6.2: Of 2x^3 + 1", got, api.OK, bigPoly{3: big.NewInt(2), 0: big.NewInt(1)})
}

func TestOfALongOne(t *testing.T) {
	p := make(api.Poly, 300001)
	p[0], p[300000] = limbs.Of(-4), padded(limbs.Of(9))
	expect(t, "P6.2: Of", sparse.Of(p), api.OK, bigPoly{300000: big.NewInt(9), 0: big.NewInt(-4)})
}

func expectPoly(t *testing.T, ts []api.Term, want bigPoly) {
	t.Helper()
	got, e := sparse.Poly(ts)
	most := -1
	for exp := range want {
		most = max(most, exp)
	}
	good := e == api.OK && len(got) == most+1
	for i := 0; good && i < len(got); i++ {
		c := want[i]
		if c == nil {
			c = new(big.Int)
		}
		good = is(got[i], c)
	}
	if !good {
		t.Errorf("P6.2: Poly %s: %d entries, error %d", name(ts), len(got), e)
	}
}

func expectNoPoly(t *testing.T, ts []api.Term, want api.Errno) {
	t.Helper()
	if got, e := sparse.Poly(ts); len(got) > 0 || e != want {
		t.Errorf("P6.2: Poly %s: %d entries, error %d, not error %d", name(ts), len(got), e, want)
	}
}

func TestPoly(t *testing.T) {
	expectPoly(t, list(2, 3, 1, 0), bigPoly{0: big.NewInt(1), 3: big.NewInt(2)})
	for _, ts := range samples() {
		want := bigSum(ts)
		low := true
		for exp := range want {
			low = low && exp <= 65535
		}
		for _, f := range forms(ts) {
			if low {
				expectPoly(t, f, want)
			} else {
				expectNoPoly(t, f, api.ErrBig)
			}
		}
	}
}

func TestPolyOfNone(t *testing.T) {
	for _, ts := range [][]api.Term{nil, {}, zeroTerms(), list(0, maxExp), list(1, maxExp, -1, maxExp), list(2, 0, -2, 0)} {
		expectPoly(t, ts, nil)
	}
}

func TestPolyOfGreatExps(t *testing.T) {
	one := big.NewInt(1)
	expectPoly(t, list(1, 65535), bigPoly{65535: one})
	expectPoly(t, list(1, 0, 1, 65535, 1, 2), bigPoly{65535: one, 2: one, 0: one})
	for _, exp := range []int{65536, 65537, 1 << 20, maxExp} {
		expectNoPoly(t, list(1, exp), api.ErrBig)
		expectNoPoly(t, list(1, 3, 1, exp, 1, 65535), api.ErrBig)
		expectNoPoly(t, list(1, exp, 5, 0, -2, exp), api.ErrBig)
		// What cancels, or has a Coef of 0, is not in normal form.
		expectPoly(t, list(1, exp, 1, 65535, -1, exp), bigPoly{65535: one})
		expectPoly(t, list(0, exp, 1, 7), bigPoly{7: one})
		expectPoly(t, []api.Term{term(1, 7), {Coef: zeros()[5], Exp: exp}}, bigPoly{7: one})
		expectNoPoly(t, list(1, exp, 1, maxExp-1, -1, exp), api.ErrBig)
	}
	expectPoly(t, list(3, 65535, 1, 65534, -3, 65535), bigPoly{65534: one})
}

func TestPolyOfExpsThatAreOut(t *testing.T) {
	for _, ts := range outs() {
		expectNoPoly(t, ts, api.ErrArg)
		expectNoPoly(t, slices.Concat(list(1, 65536), ts), api.ErrArg)
	}
}

func TestThereAndBack(t *testing.T) {
	for _, p := range polys() {
		got, e := sparse.Poly(sparse.Of(p))
		if e != api.OK || !upoly.Eq(got, p) || len(got) != upoly.Deg(p)+1 {
			t.Errorf("P6.2: Poly of Of %v: %v, error %d", p, got, e)
		}
	}
}
