package limbs_test

import (
	"math"
	"math/big"
	"testing"

	"ashlar/api"
	"ashlar/limbs"
)

func TestOf(t *testing.T) {
	for _, n := range []int64{0, 1, -1, 1<<31 - 1, -1 << 31, 1<<32 - 1, 1 << 32, -1 << 32, 1<<32 + 1,
		math.MaxInt64, math.MaxInt64 - 1, math.MinInt64, math.MinInt64 + 1} {
		expect(t, "P1.1: Of", limbs.Of(n), big.NewInt(n))
		if m, ok := limbs.Small(limbs.Of(n)); m != n || !ok {
			t.Errorf("P1.1: Small(Of(%d)): %d, %v", n, m, ok)
		}
	}
}

func TestSmall(t *testing.T) {
	for _, x := range []struct {
		a  string
		n  int64
		ok bool
	}{
		{"9223372036854775806", math.MaxInt64 - 1, true},
		{"9223372036854775807", math.MaxInt64, true},
		{"9223372036854775808", 0, false},
		{"9223372036854775809", 0, false},
		{"-9223372036854775807", math.MinInt64 + 1, true},
		{"-9223372036854775808", math.MinInt64, true},
		{"-9223372036854775809", 0, false},
		{"18446744073709551615", 0, false},
		{"-18446744073709551615", 0, false},
		{"18446744073709551616", 0, false},
		{"-18446744073709551616", 0, false},
	} {
		if n, ok := limbs.Small(parse(x.a)); n != x.n || ok != x.ok {
			t.Errorf("P1.1: Small(%s): %d, %v", x.a, n, ok)
		}
	}
	long := api.Int{Neg: true, L: []uint32{5, 0, 0, 0, 0}}
	if n, ok := limbs.Small(long); n != -5 || !ok {
		t.Errorf("P1.1: Small of a long -5: %d, %v", n, ok)
	}
	for _, a := range samples() {
		x := toBig(a)
		n, ok := limbs.Small(a)
		if ok != x.IsInt64() || ok && n != x.Int64() || !ok && n != 0 {
			t.Errorf("P1.1: Small(%s): %d, %v", x, n, ok)
		}
	}
}

func TestSignAndNeg(t *testing.T) {
	for _, a := range samples() {
		x := toBig(a)
		if s := limbs.Sign(a); s != x.Sign() {
			t.Errorf("P1.1: Sign(%s): %d", x, s)
		}
		expect(t, "P1.1: Neg", limbs.Neg(a), x.Neg(x))
	}
}

func TestCmp(t *testing.T) {
	eachPair(func(a, b api.Int) {
		x, y := toBig(a), toBig(b)
		if c := limbs.Cmp(a, b); c != x.Cmp(y) {
			t.Errorf("P1.1: Cmp(%s, %s): %d", x, y, c)
		}
	})
}

func sums(t *testing.T) func(a, b api.Int) {
	return func(a, b api.Int) {
		x, y := toBig(a), toBig(b)
		expect(t, "P1.1: Add", limbs.Add(a, b), new(big.Int).Add(x, y))
		expect(t, "P1.1: Sub", limbs.Sub(a, b), new(big.Int).Sub(x, y))
		expect(t, "P1.1: Mul", limbs.Mul(a, b), new(big.Int).Mul(x, y))
	}
}

func TestAddSubMul(t *testing.T) {
	eachPair(sums(t))
	eachGreatPair(sums(t))
}

func TestSubOfNearlyEqual(t *testing.T) {
	d := dice(3)
	for range 50 {
		a := d.number(90)
		x := toBig(a)
		for k := int64(-2); k <= 2; k++ {
			y := new(big.Int).Add(x, big.NewInt(k))
			expect(t, "P1.1: Sub", limbs.Sub(a, fromBig(y)), big.NewInt(-k))
			if c := limbs.Cmp(a, fromBig(y)); c != x.Cmp(y) {
				t.Errorf("P1.1: Cmp of neighbours: %d", c)
			}
		}
	}
}

func TestMulExample(t *testing.T) {
	m := parse("0xffffffffffffffff")
	want, _ := new(big.Int).SetString("340282366920938463426481119284349108225", 10)
	expect(t, "P1.1: Mul", limbs.Mul(m, m), want)
}

// Where numbers are cut into halves or pieces hangs on both lengths.
func TestMulOfManyLengths(t *testing.T) {
	d := dice(29)
	for _, m := range []int{80, 81, 160, 161, 163, 164, 324} {
		for n := 1; n <= m+1; n++ {
			a, b := d.number(m), d.number(n)
			expect(t, "P1.1: Mul", limbs.Mul(a, b), new(big.Int).Mul(toBig(a), toBig(b)))
			ones := limbs.Mul(full(m), full(n))
			expect(t, "P1.1: Mul", ones, new(big.Int).Mul(toBig(full(m)), toBig(full(n))))
		}
	}
}

// full gives the greatest number of so many limbs.
func full(n int) api.Int {
	a := api.Int{}
	for range n {
		a.L = append(a.L, 1<<32-1)
	}
	return a
}
