package modular_test

import (
	"math"
	"math/big"
	"math/rand"
	"testing"

	"ashlar/api"
	"ashlar/limbs"
	"ashlar/modular"
)

// notPrimes are numbers by which nothing is reckoned.
func notPrimes() []int64 {
	return []int64{math.MinInt64, -1 << 31, -7, -2, -1, 0, 1, 4, 6, 9, 91, 561, 1373653, 1<<31 - 2, 1 << 31, 1<<31 + 11, 1<<61 - 1, math.MaxInt64}
}

func expectInverse(t *testing.T, a, p int64) api.Errno {
	t.Helper()
	want, e := int64(0), api.OK
	switch {
	case !isPrime(p):
		e = api.ErrArg
	case divides(p, big.NewInt(a)):
		e = api.ErrPrime
	default:
		m := big.NewInt(p)
		want = new(big.Int).ModInverse(new(big.Int).Mod(big.NewInt(a), m), m).Int64()
	}
	if b, f := modular.Inverse(a, p); b != want || f != e {
		t.Errorf("P14.1: Inverse(%d, %d): %d, %d, not %d, %d", a, p, b, f, want, e)
	}
	return e
}

func expectRat(t *testing.T, a api.Rat, p int64) api.Errno {
	t.Helper()
	want, e := ratio(bigRat(a), p)
	if r, f := modular.Rat(a, p); r != want || f != e {
		t.Errorf("P14.1: Rat(%v, %d): %d, %d, not %d, %d", a, p, r, f, want, e)
	}
	return e
}

func TestExamplesOfRatios(t *testing.T) {
	if !modular.Prime(2147483647) || modular.Prime(1) || modular.Prime(91) {
		t.Error("P14.1: the examples of Prime")
	}
	if r, e := modular.Rat(over(1, 3), 7); r != 5 || e != api.OK {
		t.Errorf("P14.1: Rat(1/3, 7): %d, %d", r, e)
	}
	if r, e := modular.Rat(over(1, 7), 7); r != 0 || e != api.ErrPrime {
		t.Errorf("P14.1: Rat(1/7, 7): %d, %d", r, e)
	}
	if b, e := modular.Inverse(3, 7); b != 5 || e != api.OK {
		t.Errorf("P14.1: Inverse(3, 7): %d, %d", b, e)
	}
}

func TestInverses(t *testing.T) {
	d := rand.New(rand.NewSource(142))
	for _, p := range append(fewPrimes(), notPrimes()...) {
		for _, a := range []int64{math.MinInt64, math.MinInt64 + 1, math.MinInt64 + 2, 1 - 1<<31, -1 << 31, -1, 0, 1, 2, 1<<31 - 2, 1<<31 - 1, 1 << 31, 1 << 32, 1<<32 + 1, math.MaxInt64 - 1, math.MaxInt64} {
			expectInverse(t, a, p)
		}
		for k := int64(-3); k <= 3; k++ { // Multiples, and what is next to them.
			for by := int64(-2); by <= 2; by++ {
				expectInverse(t, k*(p%(1<<32))+by, p)
			}
		}
		for range 200 {
			expectInverse(t, int64(d.Uint64()), p)
		}
	}
	for _, p := range []int64{2, 3, 5, 7, 101} {
		for a := -3 * p; a < 3*p; a++ {
			expectInverse(t, a, p)
			b, e := modular.Inverse(a, p)
			if e == api.OK && (b <= 0 || b >= p || (a*b-1)%p != 0) || (e == api.ErrPrime) != (a%p == 0) {
				t.Errorf("P14.1: Inverse(%d, %d): %d, %d", a, p, b, e)
			}
		}
	}
	// The greatest multiples of primes that int64 holds, and 0.
	for _, p := range fewPrimes() {
		for _, a := range []int64{0, p, -p, math.MaxInt64 / p * p, math.MinInt64 / p * p} {
			if b, e := modular.Inverse(a, p); b != 0 || e != api.ErrPrime {
				t.Errorf("P14.1: Inverse(%d, %d): %d, %d", a, p, b, e)
			}
		}
	}
}

// An argument that is wrong is told ahead of what the prime divides.
func TestNoPrimes(t *testing.T) {
	for _, p := range notPrimes() {
		for _, a := range []int64{0, 1, p, -5} {
			if b, e := modular.Inverse(a, p); b != 0 || e != api.ErrArg {
				t.Errorf("P14.1: Inverse(%d, %d): %d, %d", a, p, b, e)
			}
			for _, v := range []api.Rat{raw(1, a), raw(a, 1), raw(a, a), raw(a, -6)} {
				if r, e := modular.Rat(v, p); r != 0 || e != api.ErrArg {
					t.Errorf("P14.1: Rat(%v, %d): %d, %d", v, p, r, e)
				}
			}
		}
	}
}

func TestRatsOfFewWords(t *testing.T) {
	all := []int64{math.MinInt64, -1 << 31, -105, -7, -6, -3, -2, -1, 0, 1, 2, 3, 5, 7, 14, 49, 101, 1<<31 - 1, 1 << 31, (1<<31 - 1) * 6, math.MaxInt64}
	for _, num := range all {
		for _, den := range all {
			for _, p := range append(fewPrimes(), 4, 91) {
				v := raw(num, den)
				e := expectRat(t, v, p)
				for _, form := range []api.Rat{{Num: wide(v.Num), Den: wide(v.Den)}, {Num: limbs.Neg(v.Num), Den: limbs.Neg(v.Den)}} {
					if f := expectRat(t, form, p); f != e {
						t.Errorf("P14.1: Rat(%v, %d): %d, not %d", form, p, f, e)
					}
				}
			}
		}
	}
}

// Over a Den of 0 each is 0, in all forms of 0.
func TestRatsOverNothing(t *testing.T) {
	for _, num := range append(zeros(), limbs.Of(1), limbs.Of(-7), bitsOf(200)) {
		for _, den := range zeros() {
			for _, p := range fewPrimes() {
				if r, e := modular.Rat(api.Rat{Num: num, Den: den}, p); r != 0 || e != api.OK {
					t.Errorf("P14.1: Rat(%v over %v, %d): %d, %d", num, den, p, r, e)
				}
			}
		}
	}
	if r, e := modular.Rat(api.Rat{}, 2); r != 0 || e != api.OK {
		t.Errorf("P14.1: Rat(0 over 0, 2): %d, %d", r, e)
	}
}

// What is shared by both parts says nothing: also a prime, and its powers.
func TestRatsInOtherTerms(t *testing.T) {
	for _, p := range fewPrimes() {
		for _, v := range []api.Rat{raw(1, 1), raw(-3, 4), raw(5, -6), raw(p, 1), raw(1, p), raw(-1, p), raw(p+1, p*3), raw(p*4, 9), raw(0, 5)} {
			e := expectRat(t, v, p)
			want, _ := modular.Rat(v, p)
			for _, by := range []api.Int{limbs.Of(p), limbs.Of(-p), limbs.Mul(limbs.Of(p), limbs.Of(p)), limbs.Mul(limbs.Of(p), bitsOf(333)), limbs.Neg(bitsOf(700)), limbs.Of(6)} {
				form := api.Rat{Num: limbs.Mul(v.Num, by), Den: wide(limbs.Mul(v.Den, by))}
				if r, f := modular.Rat(form, p); r != want || f != e {
					t.Errorf("P14.1: Rat(%v, %d): %d, %d, not %d, %d", form, p, r, f, want, e)
				}
			}
		}
		// The prime stands as often in both, or once more in one of them.
		power := limbs.Of(p)
		for range 40 {
			more := limbs.Mul(power, limbs.Of(p))
			for _, c := range []struct {
				v    api.Rat
				want int64
				e    api.Errno
			}{{api.Rat{Num: power, Den: power}, 1, api.OK}, {api.Rat{Num: more, Den: power}, 0, api.OK}, {api.Rat{Num: power, Den: more}, 0, api.ErrPrime}, {api.Rat{Num: limbs.Neg(power), Den: power}, p - 1, api.OK}} {
				if r, e := modular.Rat(c.v, p); r != c.want || e != c.e {
					t.Errorf("P14.1: Rat(%v, %d): %d, %d, not %d, %d", c.v, p, r, e, c.want, c.e)
				}
			}
			power = more
		}
	}
}

func TestRatsOfManyWords(t *testing.T) {
	d := rand.New(rand.NewSource(143))
	told := map[api.Errno]int{}
	for range 1000 {
		v := api.Rat{Num: randomInt(d, d.Intn(40)), Den: randomInt(d, 1+d.Intn(40))}
		for _, p := range fewPrimes() {
			told[expectRat(t, v, p)]++
			for _, by := range []api.Rat{{Num: limbs.Of(p), Den: limbs.Of(1)}, {Num: limbs.Of(1), Den: limbs.Of(p)}, {Num: limbs.Of(-p), Den: limbs.Of(p)}} {
				told[expectRat(t, api.Rat{Num: limbs.Mul(v.Num, by.Num), Den: wide(limbs.Mul(v.Den, by.Den))}, p)]++
			}
		}
	}
	if told[api.OK] < 5000 || told[api.ErrPrime] < 5000 {
		t.Errorf("too few of some kind: %v", told)
	}
}
