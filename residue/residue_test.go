package residue_test

import (
	"math"
	"math/big"
	"math/rand"
	"testing"

	"ashlar/api"
	"ashlar/limbs"
	"ashlar/residue"
	"ashlar/upoly"
)

func TestIsPrime(t *testing.T) {
	for n := int64(-100); n < 50000; n++ {
		if residue.IsPrime(n) != big.NewInt(n).ProbablyPrime(0) {
			t.Errorf("IsPrime(%d): %t", n, residue.IsPrime(n))
		}
	}
	for n := int64(api.MaxPrime); n > api.MaxPrime-20000; n-- {
		if residue.IsPrime(n) != big.NewInt(n).ProbablyPrime(0) {
			t.Errorf("IsPrime(%d): %t", n, residue.IsPrime(n))
		}
	}
	// Numbers that look like primes to the bases 2, 3 and 5, and what is too great.
	for _, n := range []int64{25326001, 161304001, 960946321, 1157839381, 1<<31 + 11, 1<<32 + 15, 1<<61 - 1, math.MinInt64, math.MaxInt64} {
		if residue.IsPrime(n) {
			t.Errorf("IsPrime(%d)", n)
		}
	}
}

// somePrimes are small and great ones, the least and the greatest among them.
func somePrimes() []residue.Prime {
	return []residue.Prime{2, 3, 5, 7, 131, 65537, 1000003, 2147483629, api.MaxPrime}
}

// someResidues are the least and the greatest of m, and some between.
func someResidues(d *rand.Rand, m residue.Prime) []uint64 {
	out := []uint64{0, 1, uint64(m) - 1, uint64(m) / 2}
	for range 20 {
		out = append(out, d.Uint64()%uint64(m))
	}
	return out
}

func TestSumsAndProducts(t *testing.T) {
	d := rand.New(rand.NewSource(1401))
	for _, m := range somePrimes() {
		of := func(x *big.Int) uint64 { return x.Mod(x, big.NewInt(int64(m))).Uint64() }
		for _, a := range someResidues(d, m) {
			x := big.NewInt(int64(a))
			for _, b := range someResidues(d, m) {
				y := big.NewInt(int64(b))
				if got := m.Minus(a, b); got != of(new(big.Int).Sub(x, y)) {
					t.Errorf("modulo %d: %d - %d: %d", m, a, b, got)
				}
				if got := m.Times(a, b); got != of(new(big.Int).Mul(x, y)) {
					t.Errorf("modulo %d: %d times %d: %d", m, a, b, got)
				}
				if got := m.Power(a, b); got != of(new(big.Int).Exp(x, y, big.NewInt(int64(m)))) {
					t.Errorf("modulo %d: %d to the power %d: %d", m, a, b, got)
				}
			}
			if a != 0 && (m.Inverse(a) >= uint64(m) || m.Times(a, m.Inverse(a)) != 1) {
				t.Errorf("modulo %d: the inverse of %d: %d", m, a, m.Inverse(a))
			}
		}
	}
}

func TestPolynomials(t *testing.T) {
	long := api.Int{Neg: true, L: []uint32{7, 0xffffffff, 0, 5, 0}}
	for _, m := range somePrimes() {
		for _, p := range []api.Poly{nil, {{}}, upoly.Of(5), upoly.Of(-1, 2, -3, 4), upoly.Of(math.MinInt64, math.MaxInt64, 0), {long, {}, limbs.Neg(long), {Neg: true, L: []uint32{0}}}} {
			entries := m.Entries(p)
			if len(entries) != len(p) {
				t.Fatalf("modulo %d: of %v: %v", m, p, entries)
			}
			for i, c := range p {
				if want, _ := limbs.Mod(c, int64(m)); entries[i] != uint64(want) || m.Of(c) != uint64(want) {
					t.Errorf("modulo %d: of %v: %d, %d, not %d", m, c, entries[i], m.Of(c), want)
				}
			}
			for _, x := range []uint64{0, 1, uint64(m) / 2, uint64(m) - 1} {
				if want := m.Of(upoly.Eval(p, limbs.Of(int64(x)))); m.Eval(entries, x) != want {
					t.Errorf("modulo %d: %v at %d: %d, not %d", m, p, x, m.Eval(entries, x), want)
				}
			}
		}
	}
}
