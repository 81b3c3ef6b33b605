package upoly_test

import (
	"math"
	"math/big"
	"math/rand"
	"testing"

	"ashlar/api"
	"ashlar/limbs"
	"ashlar/upoly"
)

func TestShift(t *testing.T) {
	expectOf(t, "P3.1: Shift", upoly.Shift(upoly.Of(0, 0, 1), limbs.Of(1)), 1, 2, 1)
	ps := append(samples(), random(rand.New(rand.NewSource(19)), 90, 2))
	for _, p := range ps {
		for _, a := range places() {
			want := bigInto(toBig(p), bigPoly{bigInt(a), big.NewInt(1)})
			expect(t, "P3.1: Shift "+name(p)+" by "+limbs.Text(a), upoly.Shift(p, a), want)
		}
	}
}

// bigStretch gives k^d p((x - j) / k): the sum of c k^(d - i) (x - j)^i.
func bigStretch(p bigPoly, k, j int64) bigPoly {
	out, power := bigPoly{}, bigPoly{big.NewInt(1)}
	for i, c := range p {
		by := new(big.Int).Exp(big.NewInt(k), big.NewInt(int64(len(p)-1-i)), nil)
		out = bigAdd(out, bigScale(power, by.Mul(by, c)))
		power = bigMul(power, bigPoly{big.NewInt(-j), big.NewInt(1)})
	}
	return out
}

func TestStretch(t *testing.T) {
	for _, p := range samples() {
		for _, k := range []int64{1, 2, 3, 4096, math.MaxInt32} {
			for _, j := range []int64{-math.MaxInt32, -5, -1, 0, 1, 2, 4095, math.MaxInt32} {
				got, e := upoly.Stretch(p, k, j)
				if e != api.OK {
					t.Errorf("P3.1: Stretch by %d, %d: error %d", k, j, e)
				}
				expect(t, "P3.1: Stretch "+name(p), got, bigStretch(toBig(p), k, j))
			}
		}
	}
}

func TestStretchOfTheDocument(t *testing.T) {
	got, e := upoly.Stretch(upoly.Of(0, 1, 1), 2, 1)
	if e != api.OK {
		t.Errorf("P3.1: Stretch: error %d", e)
	}
	expectOf(t, "P3.1: Stretch", got, -1, 0, 1)
}

func TestStretchOutOfRange(t *testing.T) {
	over := int64(math.MaxInt32 + 1)
	for _, c := range [][2]int64{
		{0, 0}, {-1, 0}, {math.MinInt64, 0}, {over, 0}, {math.MaxInt64, 0},
		{1, over}, {1, -over}, {1, math.MaxInt64}, {1, math.MinInt64}, {0, over},
	} {
		for _, p := range append(zeroForms(), upoly.Of(3), upoly.Of(1, 2)) {
			got, e := upoly.Stretch(p, c[0], c[1])
			if e != api.ErrArg || len(got) > 0 {
				t.Errorf("P3.1: Stretch %s by %d, %d: %v, error %d", name(p), c[0], c[1], got, e)
			}
		}
	}
}
