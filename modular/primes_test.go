package modular_test

import (
	"math"
	"math/rand"
	"testing"

	"ashlar/modular"
)

// sieve tells of each number below n whether it is a prime.
func sieve(n int) []bool {
	out := make([]bool, n)
	for k := 2; k < n; k++ {
		out[k] = true
	}
	for k := 2; k*k < n; k++ {
		for j := k * k; out[k] && j < n; j += k {
			out[j] = false
		}
	}
	return out
}

func expectPrime(t *testing.T, p int64, want bool) {
	t.Helper()
	if modular.Prime(p) != want {
		t.Errorf("P14.1: Prime(%d): not %t", p, want)
	}
}

func TestSmallPrimes(t *testing.T) {
	for n, want := range sieve(1 << 19) {
		expectPrime(t, int64(n), want)
		expectPrime(t, -int64(n), false)
	}
}

func TestPrimesByTheirNames(t *testing.T) {
	for _, n := range []int64{2, 3, 5, 7, 11, 13, 65537, 1000003, 1<<31 - 19, 1<<31 - 1} {
		expectPrime(t, n, true)
	}
	for _, n := range []int64{
		math.MinInt64, math.MinInt64 + 1, 1 - 1<<31, -1 << 31, -7, -3, -2, -1, 0, 1, 4, 91, 1<<31 - 2, 1 << 31, 1<<31 + 1, 1<<32 - 1, 1 << 32, math.MaxInt64 - 1, math.MaxInt64,
		// Primes that are too great, and what would be a prime if it wrapped.
		1<<31 + 11, 1<<32 + 15, 1<<61 - 1, math.MaxInt64 - 24, 1<<32 + 2, 1<<32 + 7, 1<<33 + 13, math.MinInt64 + 3,
	} {
		expectPrime(t, n, false)
	}
}

func TestPrimesByChance(t *testing.T) {
	d := rand.New(rand.NewSource(141))
	for n := int64(1<<31 - 3000); n < 1<<31+3000; n++ {
		expectPrime(t, n, isPrime(n))
	}
	for range 100000 {
		n := d.Int63n(1 << 31)
		expectPrime(t, n, isPrime(n))
		expectPrime(t, -n, false)
	}
	for range 5000 {
		expectPrime(t, int64(d.Uint64()), false)
	}
}

// What is made of two great primes, of one twice, and so on.
func TestProductsOfPrimes(t *testing.T) {
	last := int64(2)
	for n, prime := range sieve(46341) {
		if !prime {
			continue
		}
		p := int64(n)
		expectPrime(t, p*p, false)
		expectPrime(t, last*p, false)
		for _, q := range []int64{2, 3, 5, 7, 46337} {
			expectPrime(t, p*q, false)
		}
		last = p
	}
}

// Numbers that look like primes to some tests.
func TestPseudoprimes(t *testing.T) {
	for _, n := range []int64{
		// Carmichael's numbers.
		561, 1105, 1729, 2465, 2821, 6601, 8911, 10585, 15841, 29341, 41041, 46657, 52633, 62745, 63973, 75361, 101101, 115921, 126217, 162401, 172081, 188461, 252601, 278545, 294409, 56052361, 118901521, 172947529, 216821881, 228842209, 1299963601,
		// To the base 2, and to 2 and 3.
		2047, 3277, 4033, 4681, 8321, 15841, 29341, 42799, 49141, 52633, 1373653, 1530787, 1987021, 2284453, 3116107, 5173601, 6787327, 11541307, 13694761, 15978007, 16070429, 16879501, 25326001, 27509653, 27664033, 28527049,
		// To 2, 3 and 5; to 2, 3, 5 and 7.
		25326001, 161304001, 960946321, 1157839381, 3215031751,
		// To 3, to 5 and to 7.
		121, 703, 1891, 3281, 8401, 781, 1541, 5461, 5611, 7813, 25, 325, 2101, 2353, 4525,
	} {
		expectPrime(t, n, false)
		if isPrime(n) {
			t.Errorf("%d is a prime", n)
		}
	}
	// (6k + 1) (12k + 1) (18k + 1), where all three are primes.
	for k := int64(1); (6*k+1)*(12*k+1)*(18*k+1) < 1<<33; k++ {
		expectPrime(t, (6*k+1)*(12*k+1)*(18*k+1), false)
	}
	// m (2m - 1), many of which look like primes to a base.
	for m := int64(2); m*(2*m-1) < 1<<31; m++ {
		expectPrime(t, m*(2*m-1), false)
	}
}
