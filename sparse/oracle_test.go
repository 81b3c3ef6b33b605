package sparse_test

import (
	"fmt"
	"maps"
	"math/big"
	"slices"
	"testing"

	"ashlar/api"
)

// The oracle of these tests is math/big, which the program itself may not use: a
// polynomial is a map from its powers to numbers, none of them 0.

type bigPoly map[int]*big.Int

func bigInt(a api.Int) *big.Int {
	x := new(big.Int)
	for _, w := range slices.Backward(a.L) {
		x.Lsh(x, 32).Or(x, big.NewInt(int64(w)))
	}
	if a.Neg {
		x.Neg(x)
	}
	return x
}

func fromBig(x *big.Int) api.Int {
	out := api.Int{Neg: x.Sign() < 0}
	low := big.NewInt(0xffffffff)
	for y := new(big.Int).Abs(x); y.Sign() > 0; y.Rsh(y, 32) {
		out.L = append(out.L, uint32(new(big.Int).And(y, low).Uint64()))
	}
	return out
}

// put adds c times x^exp.
func (p bigPoly) put(c *big.Int, exp int) {
	v := new(big.Int).Set(c)
	if old := p[exp]; old != nil {
		v.Add(v, old)
	}
	p[exp] = v
	if v.Sign() == 0 {
		delete(p, exp)
	}
}

func bigSum(lists ...[]api.Term) bigPoly {
	out := bigPoly{}
	for _, ts := range lists {
		for _, t := range ts {
			out.put(bigInt(t.Coef), t.Exp)
		}
	}
	return out
}

func bigProduct(a, b []api.Term) bigPoly {
	out := bigPoly{}
	right := bigSum(b)
	for i, c := range bigSum(a) {
		for j, d := range right {
			out.put(new(big.Int).Mul(c, d), i+j)
		}
	}
	return out
}

// bigValue gives the value at x, less multiples of m.
func bigValue(ts []api.Term, x, m int64) int64 {
	v, mod := new(big.Int), big.NewInt(m)
	for _, t := range ts {
		power := new(big.Int).Exp(big.NewInt(x), big.NewInt(int64(t.Exp)), mod)
		v.Add(v, power.Mul(power, bigInt(t.Coef)))
	}
	return v.Mod(v, mod).Int64()
}

func isNormal(a api.Int) bool {
	return len(a.L) == 0 && !a.Neg || len(a.L) > 0 && a.L[len(a.L)-1] != 0
}

// is tells whether an answer is a number, in normal form.
func is(got api.Int, want *big.Int) bool { return isNormal(got) && bigInt(got).Cmp(want) == 0 }

// expect holds an answer against a polynomial, in normal form: there is one alone.
func expect(t *testing.T, what string, got []api.Term, e api.Errno, want bigPoly) {
	t.Helper()
	exps := slices.Sorted(maps.Keys(want))
	slices.Reverse(exps)
	same := slices.EqualFunc(got, exps, func(u api.Term, exp int) bool {
		return u.Exp == exp && is(u.Coef, want[exp])
	})
	if !same || e != api.OK {
		t.Errorf("%s: %s, error %d, not %s", what, name(got), e, short(fmt.Sprint(want)))
	}
}

// expectError holds an answer of terms against an error with nothing beside it.
func expectError(t *testing.T, what string, got []api.Term, e, want api.Errno) {
	t.Helper()
	if len(got) > 0 || e != want {
		t.Errorf("%s: %s, error %d, not error %d", what, name(got), e, want)
	}
}

// name tells terms as they stand.
func name(ts []api.Term) string {
	s := ""
	for i, u := range ts {
		if i == 12 {
			return short(fmt.Sprintf("%s.. (%d terms)", s, len(ts)))
		}
		s += fmt.Sprintf("%vx^%d ", bigInt(u.Coef), u.Exp)
	}
	return short("[" + s + "]")
}

func short(s string) string {
	if len(s) > 300 {
		return s[:300] + ".."
	}
	return s
}
