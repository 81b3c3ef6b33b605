package roots_test

import (
	"fmt"
	"math/big"
	"math/rand"
	"slices"
	"testing"

	"ashlar/api"
	"ashlar/limbs"
	"ashlar/roots"
	"ashlar/upoly"
)

// expectRoots holds All and Natural against roots, in whatever order and as often
// as they are given.
func expectRoots(t *testing.T, what string, p api.Poly, xs []*big.Int) {
	t.Helper()
	want := once(xs)
	got, e := roots.All(p)
	expectInts(t, "P4.1: All "+what, got, e, want)
	got, e = roots.Natural(p)
	expectInts(t, "P4.1: Natural "+what, got, e, notBelow(want))
}

func TestExamples(t *testing.T) {
	for _, c := range []struct {
		p    api.Poly
		want string
	}{
		{upoly.Of(0, -1, 0, 1), "-1 0 1"},
		{upoly.Of(1, 0, 1), ""},
		{upoly.Of(-1, 2), ""},
		{api.Poly{fromBig(whole("-10^40")), limbs.Of(1)}, "10^40"},
	} {
		expectRoots(t, names(c.p), c.p, wholes(c.want))
	}
}

func TestAllOfZero(t *testing.T) {
	for _, p := range zeroForms() {
		if l, e := roots.All(p); len(l) != 0 || e != api.ErrZero {
			t.Errorf("P4.1: All of zero: %v, %d", l, e)
		}
		if l, e := roots.Natural(p); len(l) != 0 || e != api.ErrZero {
			t.Errorf("P4.1: Natural of zero: %v, %d", l, e)
		}
	}
}

// A root divides the lowest entry that is not 0: so it is from -3 to 3 here.
func TestAllOfEverySmallPolynomial(t *testing.T) {
	for n := range 7 * 7 * 7 * 7 * 7 {
		var entries []int64
		for k := n; len(entries) < 5; k /= 7 {
			entries = append(entries, int64(k%7-3))
		}
		p := upoly.Of(entries...)
		if len(p) == 0 {
			continue
		}
		var want []*big.Int
		for x := int64(-3); x <= 3; x++ {
			if limbs.Sign(upoly.Eval(p, limbs.Of(x))) == 0 {
				want = append(want, big.NewInt(x))
			}
		}
		expectRoots(t, fmt.Sprint(entries), p, want)
	}
}

func TestAllOfKnownRoots(t *testing.T) {
	eachKnown(func(rest api.Poly, xs []*big.Int, p api.Poly) {
		for _, form := range forms(p) {
			expectRoots(t, fmt.Sprint("of ", short(fmt.Sprint(xs)), " and ", names(rest)), form, xs)
		}
	})
}

func TestAllSideBySide(t *testing.T) {
	for _, from := range wholes("-40 -200 1 0 7^50 -10^20") {
		var xs []*big.Int
		for i := range int64(80) {
			xs = append(xs, new(big.Int).Add(from, big.NewInt(i)))
		}
		expectRoots(t, "of 80 from "+from.String(), times(upoly.Of(-3, 7), xs...), xs)
	}
}

func TestAllOfOneRoot(t *testing.T) {
	for _, k := range []uint{1, 2, 6, 7, 8, 31, 32, 33, 63, 64, 65, 1000} {
		for _, off := range []int64{-1, 0, 1} {
			x := new(big.Int).Lsh(big.NewInt(1), k)
			x.Add(x, big.NewInt(off))
			for range 2 {
				expectRoots(t, "of "+x.String(), times(upoly.Of(1), x), []*big.Int{x})
				expectRoots(t, "of "+x.String()+" twice", times(upoly.Of(-2), x, x), []*big.Int{x})
				x = new(big.Int).Neg(x)
			}
		}
	}
}

// x^n - s x^(n-1) - s^2 x^(n-2) - .. - 2 s^n is zero at 2 s: no root is greater
// beside entries of such sizes.
func TestAllOfRootsThatAreGreatBesideTheEntries(t *testing.T) {
	for k := uint(3); k < 80; k++ {
		high := new(big.Int).Lsh(big.NewInt(1), k)
		for _, off := range []*big.Int{big.NewInt(-1), new(big.Int), big.NewInt(1), new(big.Int).Quo(high, big.NewInt(-10))} {
			s := new(big.Int).Add(high, off)
			for _, n := range []int{2, 3, 24} {
				expectTwice(t, n, s)
				expectTwice(t, n, new(big.Int).Neg(s))
			}
		}
	}
}

func expectTwice(t *testing.T, n int, s *big.Int) {
	t.Helper()
	p := make(api.Poly, n+1)
	p[n] = limbs.Of(1)
	power := big.NewInt(-1)
	for i := n - 1; i >= 0; i-- {
		power = new(big.Int).Mul(power, s)
		p[i] = fromBig(power)
	}
	p[0] = limbs.Add(p[0], p[0])
	xs := []*big.Int{new(big.Int).Lsh(s, 1)}
	if n%2 == 0 {
		xs = append(xs, new(big.Int).Neg(s))
	}
	expectRoots(t, fmt.Sprint("of twice ", s, ", degree ", n), p, xs)
}

func TestAllOfRandomRoots(t *testing.T) {
	d := rand.New(rand.NewSource(11))
	for i := range 60 {
		var xs []*big.Int
		for range 1 + d.Intn(12) {
			x := new(big.Int).Rand(d, new(big.Int).Lsh(big.NewInt(1), uint(1+d.Intn(30*(i+1)))))
			if d.Intn(2) == 0 {
				x.Neg(x)
			}
			xs = append(xs, slices.Repeat([]*big.Int{x}, 1+d.Intn(3))...)
		}
		list := rootless()
		expectRoots(t, fmt.Sprint(xs), times(list[i%len(list)], xs...), xs)
	}
}

// Numbers that differ by a multiple of many primes are not told apart modulo them.
func TestAllOfRootsAlikeModuloPrimes(t *testing.T) {
	far := big.NewInt(1)
	for n := int64(2); n < 3000; n++ {
		if big.NewInt(n).ProbablyPrime(0) {
			far.Mul(far, big.NewInt(n))
		}
	}
	xs := []*big.Int{big.NewInt(5), new(big.Int).Add(far, big.NewInt(5)), new(big.Int).Sub(big.NewInt(5), far)}
	expectRoots(t, "far apart", times(upoly.Of(1, 0, 1), xs...), xs)

	// Each prime about twice the one before, as a program may take them.
	far = big.NewInt(1)
	for n := int64(131); n < 1<<21; n = 2*n + 1 {
		for !big.NewInt(n).ProbablyPrime(0) {
			n += 2
		}
		far.Mul(far, big.NewInt(n))
	}
	xs = []*big.Int{big.NewInt(-1), new(big.Int).Sub(far, big.NewInt(1))}
	expectRoots(t, "alike modulo primes that double", times(upoly.Of(1), xs...), xs)
}

func TestAllBesideAGreatContent(t *testing.T) {
	content := new(big.Int).MulRange(1, 1000)
	xs := wholes("-10^20 -4 0 0 3 3 10^20")
	for _, c := range []*big.Int{content, new(big.Int).Neg(content)} {
		expectRoots(t, "times 1000!", times(api.Poly{fromBig(c)}, xs...), xs)
	}
}

func TestAllOfAGreatDegree(t *testing.T) {
	p := make(api.Poly, 3001)
	p[0], p[3000] = limbs.Of(-1), limbs.Of(1)
	expectRoots(t, "x^3000 - 1", p, wholes("-1 1"))
	p[0], p[1] = limbs.Of(0), limbs.Of(-1)
	expectRoots(t, "x^3000 - x", p, wholes("0 1"))
	p[1], p[2999] = limbs.Of(0), limbs.Of(7)
	expectRoots(t, "x^3000 + 7 x^2999", p, wholes("-7 0"))
}

func TestAllOfGreatNumbers(t *testing.T) {
	a, b := whole("10^9000+7"), whole("-3^20000")
	p := times(upoly.Of(2, 0, 5), a, a, b)
	expectRoots(t, "of 9000 digits", p, []*big.Int{a, b})
	p[0] = limbs.Add(p[0], limbs.Of(1))
	expectRoots(t, "of 9000 digits, and 1", p, nil)
}
