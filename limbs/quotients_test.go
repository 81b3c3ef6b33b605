package limbs_test

import (
	"math"
	"math/big"
	"testing"

	"ashlar/api"
	"ashlar/limbs"
)

func zeros() []api.Int {
	return []api.Int{{}, {L: []uint32{}}, {Neg: true}, {L: []uint32{0}}, {Neg: true, L: []uint32{0, 0}}}
}

func quotients(t *testing.T) func(a, b api.Int) {
	return func(a, b api.Int) {
		x, y := toBig(a), toBig(b)
		q, r, e := limbs.Quo(a, b)
		wantQ, wantR, wantE := new(big.Int), new(big.Int), api.ErrZero
		if y.Sign() != 0 {
			wantQ.DivMod(x, y, wantR)
			wantE = api.OK
		}
		expect(t, "P1.2: Quo: q", q, wantQ)
		expect(t, "P1.2: Quo: r", r, wantR)
		if e != wantE {
			t.Errorf("P1.2: Quo(%s, %s): error %d", x, y, e)
		}
	}
}

func TestQuo(t *testing.T) {
	eachPair(quotients(t))
	eachGreatPair(quotients(t))
}

func TestQuoExamples(t *testing.T) {
	for _, x := range []struct{ a, b, q, r int64 }{
		{-7, 2, -4, 1}, {7, -2, -3, 1}, {-7, -2, 4, 1}, {7, 2, 3, 1},
		{-8, 2, -4, 0}, {-8, -2, 4, 0}, {0, -3, 0, 0}, {-1, 5, -1, 4},
	} {
		q, r, e := limbs.Quo(limbs.Of(x.a), limbs.Of(x.b))
		expect(t, "P1.2: Quo: q", q, big.NewInt(x.q))
		expect(t, "P1.2: Quo: r", r, big.NewInt(x.r))
		if e != api.OK {
			t.Errorf("P1.2: Quo(%d, %d): error %d", x.a, x.b, e)
		}
	}
}

func TestQuoByZero(t *testing.T) {
	for _, z := range zeros() {
		for _, a := range samples() {
			q, r, e := limbs.Quo(a, z)
			if e != api.ErrZero || len(q.L) != 0 || q.Neg || len(r.L) != 0 || r.Neg {
				t.Errorf("P1.2: Quo by zero: %v, %v, %d", short(q), short(r), e)
			}
		}
	}
}

// Just below and at a multiple, guesses of the quotient's limbs are too great.
func TestQuoAroundMultiples(t *testing.T) {
	check := quotients(t)
	d := dice(5)
	for range 60 {
		b := d.number(1 + d.below(400))
		if d.below(3) == 0 {
			b.L[len(b.L)-1] = 1 << 31
		}
		for _, k := range []uint{1, 32, 64, 96, uint(32 * d.below(400))} {
			for _, near := range []int64{-1, 0, 1} {
				x := new(big.Int).Lsh(toBig(b), k)
				check(fromBig(x.Add(x, big.NewInt(near))), b)
			}
		}
		c := d.number(1 + d.below(400))
		x := new(big.Int).Mul(toBig(b), toBig(c))
		check(fromBig(x), b)
		check(fromBig(x.Sub(x, big.NewInt(1))), b)
	}
}

func divisors(t *testing.T) func(a, b api.Int) {
	return func(a, b api.Int) {
		x, y := toBig(a), toBig(b)
		x.Abs(x)
		y.Abs(y)
		expect(t, "P1.2: Gcd", limbs.Gcd(a, b), new(big.Int).GCD(nil, nil, x, y))
	}
}

func TestGcd(t *testing.T) {
	eachPair(divisors(t))
	eachGreatPair(divisors(t))
	expect(t, "P1.2: Gcd", limbs.Gcd(limbs.Of(-12), limbs.Of(18)), big.NewInt(6))
	for _, a := range zeros() {
		for _, b := range zeros() {
			expect(t, "P1.2: Gcd(0, 0)", limbs.Gcd(a, b), new(big.Int))
		}
	}
}

func TestGcdOfCommonFactors(t *testing.T) {
	check := divisors(t)
	d := dice(13)
	for range 60 {
		g := d.number(1 + d.below(60))
		a, b := limbs.Mul(g, d.number(1+d.below(60))), limbs.Mul(g, d.number(1+d.below(60)))
		check(a, b)
		check(a, g)
		check(g, a)
	}
}

// Of neighbours among the Fibonacci numbers all of Euclid's quotients are 1, of
// neighbours of great powers they are great.
func TestGcdOfLongRuns(t *testing.T) {
	check := divisors(t)
	x, y := big.NewInt(0), big.NewInt(1)
	for range 3000 {
		x.Add(x, y)
		x, y = y, x
	}
	check(fromBig(x), fromBig(y))
	p := new(big.Int).Lsh(big.NewInt(1), 2000)
	q := new(big.Int).Lsh(big.NewInt(1), 1970)
	check(fromBig(p), fromBig(q.Sub(q, big.NewInt(1))))
	check(fromBig(p.Add(p, big.NewInt(1))), fromBig(q))
}

func TestBits(t *testing.T) {
	for _, a := range samples() {
		if n := limbs.Bits(a); n != toBig(a).BitLen() {
			t.Errorf("P1.2: Bits(%s): %d", toBig(a), n)
		}
	}
	for k := range 130 {
		p := new(big.Int).Lsh(big.NewInt(1), uint(k))
		at := limbs.Bits(fromBig(p))
		below := limbs.Bits(fromBig(new(big.Int).Sub(p, big.NewInt(1))))
		if at != k+1 || below != k {
			t.Errorf("P1.2: Bits at 2^%d: %d, %d below", k, at, below)
		}
	}
	if limbs.Bits(limbs.Of(-8)) != 4 {
		t.Error("P1.2: Bits(-8)")
	}
}

func TestPower(t *testing.T) {
	for _, a := range []int64{0, 1, -1, 2, -2, 3, -3, 10, 1 << 40, math.MinInt64} {
		for n := range 40 {
			p, e := limbs.Power(limbs.Of(a), n)
			expect(t, "P1.2: Power", p, new(big.Int).Exp(big.NewInt(a), big.NewInt(int64(n)), nil))
			if e != api.OK {
				t.Errorf("P1.2: Power(%d, %d): error %d", a, n, e)
			}
		}
	}
	d := dice(17)
	a := d.number(50)
	p, e := limbs.Power(a, 100)
	expect(t, "P1.2: Power", p, new(big.Int).Exp(toBig(a), big.NewInt(100), nil))
	if e != api.OK {
		t.Errorf("P1.2: Power of a great number: error %d", e)
	}
}

func TestPowerOfUnits(t *testing.T) {
	for _, x := range []struct {
		a    api.Int
		n    int
		want int64
	}{
		{limbs.Of(1), math.MaxInt, 1},
		{limbs.Of(-1), math.MaxInt, -1},
		{limbs.Of(-1), math.MaxInt - 1, 1},
		{limbs.Of(0), math.MaxInt, 0},
		{limbs.Of(0), 0, 1},
		{api.Int{Neg: true, L: []uint32{0, 0}}, 0, 1},
		{api.Int{Neg: true, L: []uint32{0, 0}}, math.MaxInt, 0},
		{api.Int{Neg: true, L: []uint32{1, 0, 0}}, 1 << 40, 1},
		{api.Int{Neg: true, L: make([]uint32, api.MaxBits)}, 3, 0},
	} {
		p, e := limbs.Power(x.a, x.n)
		expect(t, "P1.2: Power", p, big.NewInt(x.want))
		if e != api.OK {
			t.Errorf("P1.2: Power(%v, %d): error %d", short(x.a), x.n, e)
		}
	}
}

func TestPowerRefused(t *testing.T) {
	widest := fromBig(new(big.Int).Lsh(big.NewInt(1), api.MaxBits-1))
	wider := fromBig(new(big.Int).Lsh(big.NewInt(1), api.MaxBits))
	padded := api.Int{L: append([]uint32{2}, make([]uint32, api.MaxBits)...)}
	for _, x := range []struct {
		a api.Int
		n int
		e api.Errno
	}{
		{limbs.Of(2), -1, api.ErrArg},
		{limbs.Of(0), -1, api.ErrArg},
		{limbs.Of(1), math.MinInt, api.ErrArg},
		{wider, -1, api.ErrArg},
		{limbs.Of(2), api.MaxBits / 2, api.OK},
		{limbs.Of(2), api.MaxBits/2 + 1, api.ErrBig},
		{limbs.Of(-3), api.MaxBits/2 + 1, api.ErrBig},
		{limbs.Of(4), api.MaxBits / 3, api.OK},
		{limbs.Of(4), api.MaxBits/3 + 1, api.ErrBig},
		{limbs.Of(2), math.MaxInt, api.ErrBig},
		{limbs.Of(8), 1 << 62, api.ErrBig},
		{limbs.Of(8), 1<<62 + 1, api.ErrBig},
		{padded, 3, api.OK},
		{widest, 1, api.OK},
		{widest, 2, api.ErrBig},
		{wider, 1, api.ErrBig},
		{wider, 0, api.OK},
	} {
		p, e := limbs.Power(x.a, x.n)
		if e != x.e || e != api.OK && (len(p.L) > 0 || p.Neg) {
			t.Errorf("P1.2: Power of %d bits, %d: error %d, not %d", limbs.Bits(x.a), x.n, e, x.e)
		}
		if e == api.OK {
			expect(t, "P1.2: Power", p, new(big.Int).Exp(toBig(x.a), big.NewInt(int64(x.n)), nil))
		}
	}
}

func TestMod(t *testing.T) {
	for _, m := range []int64{1, 2, 7, 1000000007, api.MaxPrime - 1, api.MaxPrime} {
		for _, a := range samples() {
			r, e := limbs.Mod(a, m)
			want := new(big.Int).Mod(toBig(a), big.NewInt(m)).Int64()
			if r != want || e != api.OK {
				t.Errorf("P1.2: Mod(%s, %d): %d, %d", toBig(a), m, r, e)
			}
		}
	}
	if r, e := limbs.Mod(limbs.Of(-1), 7); r != 6 || e != api.OK {
		t.Errorf("P1.2: Mod(-1, 7): %d, %d", r, e)
	}
}

func TestModRefused(t *testing.T) {
	for _, m := range []int64{0, -1, -7, api.MaxPrime + 1, 1 << 32, 1<<32 + 7, math.MaxInt64, math.MinInt64} {
		for _, a := range samples() {
			if r, e := limbs.Mod(a, m); r != 0 || e != api.ErrArg {
				t.Errorf("P1.2: Mod(%s, %d): %d, %d", toBig(a), m, r, e)
			}
		}
	}
}
