package roots_test

import (
	"fmt"
	"math/big"
	"slices"
	"strings"
	"testing"

	"ashlar/api"
	"ashlar/limbs"
	"ashlar/upoly"
)

// The oracle of these tests is math/big, which the program itself may not use,
// and that polynomials are made of their roots by products.

func bigInt(a api.Int) *big.Int {
	x := new(big.Int)
	for _, w := range slices.Backward(a.L) {
		x.Lsh(x, 32).Or(x, big.NewInt(int64(w)))
	}
	if a.Neg {
		x.Neg(x)
	}
	return x
}

func fromBig(x *big.Int) api.Int {
	out := api.Int{Neg: x.Sign() < 0}
	low := big.NewInt(0xffffffff)
	for y := new(big.Int).Abs(x); y.Sign() > 0; y.Rsh(y, 32) {
		out.L = append(out.L, uint32(new(big.Int).And(y, low).Uint64()))
	}
	return out
}

// whole reads a sum of numbers, of which a^b is a power: 10^40+1.
func whole(s string) *big.Int {
	sum := new(big.Int)
	for _, part := range strings.Split(s, "+") {
		below := strings.HasPrefix(part, "-")
		base, exp, isPower := strings.Cut(strings.TrimPrefix(part, "-"), "^")
		if !isPower {
			exp = "1"
		}
		a, ok := new(big.Int).SetString(base, 10)
		n, fine := new(big.Int).SetString(exp, 10)
		if !ok || !fine {
			panic("no number: " + s)
		}
		a.Exp(a, n, nil)
		if below {
			a.Neg(a)
		}
		sum.Add(sum, a)
	}
	return sum
}

// wholes reads numbers between which are blanks.
func wholes(s string) []*big.Int {
	var out []*big.Int
	for _, word := range strings.Fields(s) {
		out = append(out, whole(word))
	}
	return out
}

func fromBigs(xs []*big.Int) []api.Int {
	var out []api.Int
	for _, x := range xs {
		out = append(out, fromBig(x))
	}
	return out
}

// times gives p times X - x for each of xs.
func times(p api.Poly, xs ...*big.Int) api.Poly {
	for _, x := range xs {
		p = upoly.Mul(p, api.Poly{fromBig(new(big.Int).Neg(x)), limbs.Of(1)})
	}
	return p
}

// once gives each of xs once, rising.
func once(xs []*big.Int) []*big.Int {
	out := slices.SortedFunc(slices.Values(xs), (*big.Int).Cmp)
	return slices.CompactFunc(out, func(a, b *big.Int) bool { return a.Cmp(b) == 0 })
}

func notBelow(xs []*big.Int) []*big.Int {
	return slices.DeleteFunc(slices.Clone(xs), func(x *big.Int) bool { return x.Sign() < 0 })
}

// isInt tells whether an answer is a number, in normal form.
func isInt(got api.Int, want *big.Int) bool {
	normal := len(got.L) == 0 && !got.Neg || len(got.L) > 0 && got.L[len(got.L)-1] != 0
	return normal && bigInt(got).Cmp(want) == 0
}

// expectInts holds an answer against numbers, and that no error stands beside it.
func expectInts(t *testing.T, what string, got []api.Int, e api.Errno, want []*big.Int) {
	t.Helper()
	if e != api.OK || !slices.EqualFunc(got, want, isInt) {
		t.Errorf("%s: %s, error %d, not %s", what, names(got), e, short(fmt.Sprint(want)))
	}
}

// expectPoly holds an answer against a polynomial in normal form.
func expectPoly(t *testing.T, what string, got, want api.Poly) {
	t.Helper()
	same := func(a, b api.Int) bool { return isInt(a, bigInt(b)) }
	if !slices.EqualFunc(got, want, same) {
		t.Errorf("%s: %s, not %s", what, names(got), names(want))
	}
}

// names tells numbers, an error's text not being longer than can be read.
func names(as []api.Int) string {
	var out []string
	for _, a := range as {
		out = append(out, bigInt(a).String())
	}
	return short(fmt.Sprint(out))
}

func short(s string) string {
	if len(s) > 200 {
		return s[:200] + ".."
	}
	return s
}

// zeros are the integer 0 in all its forms.
func zeros() []api.Int {
	return []api.Int{
		{}, {Neg: true}, {L: []uint32{}}, {L: []uint32{0}},
		{Neg: true, L: []uint32{0}}, {Neg: true, L: []uint32{0, 0, 0}},
	}
}

// padded gives the same number with highest limbs that are 0; 0 gets a Neg.
func padded(a api.Int) api.Int {
	return api.Int{Neg: a.Neg || len(a.L) == 0, L: append(slices.Clone(a.L), 0, 0)}
}

func paddedAll(as []api.Int) []api.Int {
	var out []api.Int
	for _, a := range as {
		out = append(out, padded(a))
	}
	return out
}

// forms gives p in several forms; p is in normal form.
func forms(p api.Poly) []api.Poly {
	high := paddedAll(p)
	return []api.Poly{p, high, append(slices.Clone(p), zeros()...), append(slices.Clone(high), zeros()...)}
}

// zeroForms are the polynomial zero in many forms.
func zeroForms() []api.Poly {
	out := []api.Poly{nil, {}, zeros()}
	for _, z := range zeros() {
		out = append(out, api.Poly{z})
	}
	return out
}

// rootless are polynomials with no integer roots: constants, and such as have
// rational, irrational or complex ones, once and twice.
func rootless() []api.Poly {
	half, dozen := upoly.Of(-1, 2), upoly.Of(-1, 12)
	noReal, noRational := upoly.Of(1, 0, 1), upoly.Of(-2, 0, 1)
	return []api.Poly{
		upoly.Of(1), upoly.Of(-1), upoly.Of(6), upoly.Of(-131 * 263), {fromBig(whole("-7^100"))},
		half, upoly.Of(3, -2), upoly.Mul(half, half), upoly.Mul(half, dozen), upoly.Of(1, 1, 1),
		noReal, upoly.Mul(noReal, noReal), noRational, upoly.Mul(noRational, upoly.Mul(noRational, noReal)),
		upoly.Of(5, 0, -10, 0, 0, 15), {fromBig(whole("10^40+1")), {}, fromBig(whole("-10^3"))},
		{fromBig(whole("-10^40")), fromBig(whole("10^41"))},
	}
}

// rootLists are roots, those that are many times roots as often.
func rootLists() [][]*big.Int {
	return [][]*big.Int{
		nil, wholes("0"), wholes("0 0"), wholes("0 0 0 0"), wholes("-1"), wholes("1"), wholes("12 12 12"),
		wholes("-1 0 1"), wholes("3 2 1"), wholes("-3 -2 -1 -1"), wholes("0 0 5 5 5 -5 7"), wholes("-131 0 131 262"),
		wholes("65 66 -65 -66"), wholes("10^40"), wholes("-10^40 10^40+1 10^40 10^40+2"), wholes("-10^60 1 10^30 10^30"),
		wholes("2^31 2^31+-1 -2^31 2^32 2^32+-1 -2^32"), wholes("2^63 2^63+-1 -2^63 2^64 -2^64 -2^64"),
		wholes("1 2 4 8 16 32 64 128 256 512 1024 2048 4096 8192"), wholes("-10^500 -10^500+1 3 3"),
	}
}

// eachKnown goes over products of what has no integer roots with others that
// have known ones.
func eachKnown(f func(rest api.Poly, xs []*big.Int, p api.Poly)) {
	for _, rest := range rootless() {
		for _, xs := range rootLists() {
			f(rest, xs, times(rest, xs...))
		}
	}
}
