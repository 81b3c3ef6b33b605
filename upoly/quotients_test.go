package upoly_test

import (
	"math/big"
	"math/rand"
	"strings"
	"testing"

	"ashlar/api"
	"ashlar/limbs"
	"ashlar/upoly"
)

func TestContentAndPrim(t *testing.T) {
	for _, p := range samples() {
		for _, by := range []int64{1, -1, 6, -4294967296} {
			q := upoly.Scale(p, limbs.Of(by))
			want := toBig(q)
			content := bigContent(want)
			if got := upoly.Content(q); !isInt(got, content) {
				t.Errorf("P3.2: Content %s: %v", name(q), got)
			}
			for i := range want {
				want[i].Quo(want[i], content)
			}
			if len(want) > 0 && want[len(want)-1].Sign() < 0 {
				want = bigScale(want, big.NewInt(-1))
			}
			for _, form := range forms(q) {
				expect(t, "P3.2: Prim "+name(q), upoly.Prim(form), want)
			}
		}
	}
}

func TestContentAndPrimAtTheEdges(t *testing.T) {
	for _, z := range zeroForms() {
		if got := upoly.Content(z); !isInt(got, new(big.Int)) {
			t.Errorf("P3.2: Content of zero: %v", got)
		}
		expectOf(t, "P3.2: Prim of zero", upoly.Prim(z))
	}
	for _, c := range []struct {
		p       []int64
		content int64
		prim    []int64
	}{
		{[]int64{6, -4}, 2, []int64{-3, 2}}, {[]int64{-8}, 8, []int64{1}}, {[]int64{1}, 1, []int64{1}},
		{[]int64{0, 0, -5}, 5, []int64{0, 0, 1}}, {[]int64{-3, 3}, 3, []int64{-1, 1}}, {[]int64{2, 3, 4}, 1, []int64{2, 3, 4}},
	} {
		for _, p := range forms(upoly.Of(c.p...)) {
			if got := upoly.Content(p); !isInt(got, big.NewInt(c.content)) {
				t.Errorf("P3.2: Content %v: %v", c.p, got)
			}
			expectOf(t, "P3.2: Prim", upoly.Prim(p), c.prim...)
		}
	}
}

// expectPseudo looks whether Lead(b)^e a = q b + r, and r's degree is below b's.
func expectPseudo(t *testing.T, a, b api.Poly) {
	t.Helper()
	what := "P3.3: Pseudo " + name(a) + " by " + name(b)
	q, r, err := upoly.Pseudo(a, b)
	x, y := toBig(a), toBig(b)
	if len(y) == 0 {
		if err != api.ErrZero || len(q) > 0 || len(r) > 0 {
			t.Errorf("%s: %v, %v, error %d", what, q, r, err)
		}
		return
	}
	e := big.NewInt(int64(max(0, len(x)-len(y)+1)))
	left := bigScale(x, new(big.Int).Exp(y[len(y)-1], e, nil))
	if err != api.OK || len(toBig(r)) >= len(y) {
		t.Errorf("%s: rest %v, error %d", what, r, err)
	}
	expect(t, what, polyOf(bigAdd(bigMul(toBig(q), y), toBig(r))), left)
	expect(t, what, q, toBig(q))
	expect(t, what, r, toBig(r))
}

func TestPseudo(t *testing.T) {
	eachPair(func(a, b api.Poly) { expectPseudo(t, a, b) })
	d := rand.New(rand.NewSource(23))
	expectPseudo(t, random(d, 40, 2), random(d, 12, 3))
	expectPseudo(t, random(d, 12, 2), random(d, 40, 3))
}

func TestPseudoAtTheEdges(t *testing.T) {
	for _, c := range []struct{ a, b, q, r []int64 }{
		{[]int64{0, 0, 1}, []int64{1, 2}, []int64{-1, 2}, []int64{1}},
		{[]int64{1, 2}, []int64{0, 0, 3}, nil, []int64{1, 2}},
		{[]int64{4, 6}, []int64{-2}, []int64{-8, -12}, nil},
		{[]int64{5}, []int64{7}, []int64{5}, nil},
		{nil, []int64{7}, nil, nil},
		{nil, []int64{1, 1}, nil, nil},
		// What has come out even after one step is multiplied by all three.
		{[]int64{0, 0, 2, 2}, []int64{2, 2}, []int64{0, 0, 8}, nil},
		{[]int64{1, 0, 0, 1}, []int64{0, 0, 2}, []int64{0, 2}, []int64{4}},
	} {
		for _, a := range forms(upoly.Of(c.a...)) {
			for _, b := range forms(upoly.Of(c.b...)) {
				q, r, e := upoly.Pseudo(a, b)
				if e != api.OK {
					t.Errorf("P3.3: Pseudo %v by %v: error %d", c.a, c.b, e)
				}
				expectOf(t, "P3.3: Pseudo "+name(a)+" by "+name(b), q, c.q...)
				expectOf(t, "P3.3: Pseudo "+name(a)+" by "+name(b), r, c.r...)
			}
		}
	}
	for _, z := range zeroForms() {
		for _, a := range []api.Poly{nil, upoly.Of(1), upoly.Of(1, 2), z} {
			expectPseudo(t, a, z)
		}
	}
}

func expectExact(t *testing.T, a, b api.Poly, ok bool, want bigPoly) {
	t.Helper()
	what := "P3.3: Exact " + name(a) + " by " + name(b)
	got, is := upoly.Exact(a, b)
	if is != ok {
		t.Errorf("%s: %t", what, is)
	}
	expect(t, what, got, want)
}

func TestExactGoes(t *testing.T) {
	eachPair(func(p, q api.Poly) {
		if b := toBig(q); len(b) > 0 {
			a := bigMul(toBig(p), b)
			expectExact(t, polyOf(a), q, true, toBig(p))
			// A rest of 1 is left, unless b is 1 or -1.
			if len(b) > 1 {
				expectExact(t, polyOf(bigAdd(a, bigPoly{big.NewInt(1)})), q, false, nil)
			}
		}
	})
}

// The entries of a quotient may be far greater than those of what is divided:
// (x^n - 1)^k has smaller ones than what is left of it without (x - 1)^k.
func TestExactWithAGreatQuotient(t *testing.T) {
	ends, line, ones := zeroes(31), zeroes(2), zeroes(30)
	ends[0].SetInt64(-1)
	ends[30].SetInt64(1)
	line[0].SetInt64(-1)
	line[1].SetInt64(1)
	for i := range ones {
		ones[i].SetInt64(1)
	}
	a, b, want := ends, line, ones
	for range 8 {
		a, b, want = bigMul(a, ends), bigMul(b, line), bigMul(want, ones)
	}
	expectExact(t, polyOf(a), polyOf(b), true, want)
}

func TestExactAtTheEdges(t *testing.T) {
	for _, c := range []struct {
		a, b, q []int64
		ok      bool
	}{
		{[]int64{-1, 0, 1}, []int64{1, 1}, []int64{-1, 1}, true},
		{[]int64{0, 1}, []int64{2}, nil, false},
		{[]int64{4, 6}, []int64{-2}, []int64{-2, -3}, true},
		{[]int64{4, 5}, []int64{2}, nil, false},
		{[]int64{3, 6}, []int64{2}, nil, false},
		// Over the rationals 1/2 x would do.
		{[]int64{0, 1, 1}, []int64{2, 2}, nil, false},
		// The leading entries divide, those below do not.
		{[]int64{0, 1, 4}, []int64{1, 2}, nil, false},
		{[]int64{1}, []int64{0, 1}, nil, false},
		{[]int64{1, 1}, []int64{1, 1, 1}, nil, false},
		{[]int64{0, 0, 2}, []int64{0, 0, 0, 1}, nil, false},
		{nil, []int64{5}, nil, true},
		{nil, []int64{0, 3}, nil, true},
		{[]int64{7}, []int64{7}, []int64{1}, true},
		{[]int64{7}, []int64{-1}, []int64{-7}, true},
		{[]int64{7}, []int64{14}, nil, false},
	} {
		for _, a := range forms(upoly.Of(c.a...)) {
			for _, b := range forms(upoly.Of(c.b...)) {
				expectExact(t, a, b, c.ok, toBig(upoly.Of(c.q...)))
			}
		}
	}
	for _, z := range zeroForms() {
		for _, a := range append(zeroForms(), upoly.Of(1), upoly.Of(0, 3)) {
			expectExact(t, a, z, false, nil)
		}
	}
}

// Entries that grow with each step say soon that it does not go.
func TestExactEndsSoon(t *testing.T) {
	a := make(api.Poly, 20001)
	a[20000] = limbs.Of(1)
	b := api.Poly{parse("-1" + strings.Repeat("0", 300)), limbs.Of(1)}
	expectExact(t, a, b, false, nil)
}
