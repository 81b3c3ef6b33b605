package upoly

import (
	"math/big"
	"math/rand"
	"slices"
	"testing"

	"ashlar/api"
	"ashlar/limbs"
)

// edgeEntries are numbers at the edges of limbs, of both signs.
func edgeEntries() []api.Int {
	var out []api.Int
	for _, l := range [][]uint32{
		{}, {1}, {1 << 31}, {1<<31 - 1}, {1<<32 - 1}, {0, 1}, {1<<32 - 1, 1<<32 - 1}, {0, 1 << 31},
	} {
		out = append(out, api.Int{L: l}, limbs.Neg(api.Int{L: l}))
	}
	return out
}

func TestBothRoadsOfProducts(t *testing.T) {
	d := rand.New(rand.NewSource(3))
	edges := edgeEntries()
	for n := 1; n < 60; n++ {
		p, q := make(api.Poly, n), make(api.Poly, 1+d.Intn(n))
		for _, r := range []api.Poly{p, q} {
			for i := range r {
				r[i] = edges[d.Intn(len(edges))]
			}
			r[len(r)-1] = edges[2+d.Intn(len(edges)-2)]
		}
		width := digitWidth(p, q)
		packed := packedProduct(p, q, width)
		if rows := productByRows(p, q); !Eq(packed, rows) {
			t.Errorf("P3.1: Mul %v and %v: packed %v, by rows %v", p, q, packed, rows)
		}
	}
}

// All entries of a product as great as its width allows, in both signs.
func TestPackedAtTheWidth(t *testing.T) {
	most := api.Int{L: []uint32{1<<32 - 1}}
	for _, n := range []int{1, 2, 3, 4, 7, 8} {
		p := slices.Repeat(api.Poly{most}, n)
		for _, q := range []api.Poly{p, Scale(p, limbs.Of(-1))} {
			width := digitWidth(p, q)
			packed := packedProduct(p, q, width)
			if !Eq(packed, productByRows(p, q)) {
				t.Errorf("P3.1: Mul of %d entries: %v", n, packed)
			}
		}
	}
}

// A packed number that would not fit must never be chosen.
func TestPackedCostDoesNotWrap(t *testing.T) {
	for _, m := range []int{1, 1 << 16, 1 << 31, 1 << 40} {
		for _, n := range []int{1, 1 << 16, 1 << 31} {
			for _, width := range []int{1, 1 << 16, 1 << 26} {
				if packedCost(m, n, width) <= 0 {
					t.Errorf("P0.6: packedCost(%d, %d, %d)", m, n, width)
				}
			}
		}
	}
}

func TestPrimes(t *testing.T) {
	m := greatestPrime()
	for n := m.Prime - 1; n > api.MaxPrime-20000; n-- {
		if !big.NewInt(int64(n)).ProbablyPrime(0) {
			continue
		}
		if m = m.below(); m.Prime != n {
			t.Fatalf("P3.3: below: %d, not %d", m.Prime, n)
		}
	}
}
