package upoly_test

import (
	"math/rand"
	"testing"

	"ashlar/api"
	"ashlar/limbs"
	"ashlar/upoly"
)

func TestProducts(t *testing.T) {
	eachPair(func(p, q api.Poly) {
		expect(t, "P3.1: Mul "+name(p)+" and "+name(q), upoly.Mul(p, q), bigMul(toBig(p), toBig(q)))
	})
}

func TestProductsOfManyShapes(t *testing.T) {
	d := rand.New(rand.NewSource(11))
	for _, m := range []int{1, 2, 9, 30, 100} {
		for _, n := range []int{1, 5, 40, 90} {
			for _, most := range []int{1, 2, 9} {
				p, q := random(d, m, most), random(d, n, 10-most)
				expect(t, "P3.1: Mul", upoly.Mul(p, q), bigMul(toBig(p), toBig(q)))
			}
		}
	}
}

// A product of a few far terms must not take the memory of all that lies between.
func TestProductOfFarTerms(t *testing.T) {
	p := make(api.Poly, 1_000_001)
	p[0], p[1_000_000] = limbs.Of(-1), limbs.Of(1)
	got := upoly.Mul(p, p)
	want := map[int]int64{0: 1, 1_000_000: -2, 2_000_000: 1}
	for i, c := range upoly.Terms(got) {
		if n, ok := limbs.Small(c); !ok || n != want[i] {
			t.Errorf("P3.1: Mul: %d at %d", n, i)
		}
		delete(want, i)
	}
	if len(want) > 0 {
		t.Errorf("P3.1: Mul: nothing at %v", want)
	}
}

func TestProductWithOneLongEntry(t *testing.T) {
	d := rand.New(rand.NewSource(13))
	p, q := random(d, 200, 1), random(d, 20, 1)
	p[100] = random(d, 1, 20000)[0]
	expect(t, "P3.1: Mul", upoly.Mul(p, q), bigMul(toBig(p), toBig(q)))
	expect(t, "P3.1: Mul", upoly.Mul(q, p), bigMul(toBig(p), toBig(q)))
}
