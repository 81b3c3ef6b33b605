package packed

import (
	"math/big"
	"math/rand"
	"slices"
	"testing"

	"ashlar/api"
	"ashlar/limbs"
)

func bigInt(a api.Int) *big.Int {
	x := new(big.Int)
	for _, w := range slices.Backward(a.L) {
		x.Lsh(x, 32).Or(x, big.NewInt(int64(w)))
	}
	if a.Neg {
		x.Neg(x)
	}
	return x
}

// value gives p at 2^(32 width).
func value(p api.Poly, width int) *big.Int {
	v := new(big.Int)
	for _, c := range slices.Backward(p) {
		v.Lsh(v, uint(32*width)).Add(v, bigInt(c))
	}
	return v
}

// edges are numbers that have room in a width, those without their signs that
// just have it too.
func edges(width int) []api.Int {
	most := slices.Repeat([]uint32{1<<32 - 1}, width)
	most[width-1] = 1<<31 - 1
	half := make([]uint32, width)
	half[width-1] = 1 << 30
	out := []api.Int{{}}
	for _, l := range [][]uint32{{1}, {1<<31 - 1}, most, half} {
		out = append(out, api.Int{L: l}, api.Int{Neg: true, L: l})
	}
	return out
}

func expectBack(t *testing.T, p api.Poly, width int) {
	t.Helper()
	a := Of(p, width)
	if bigInt(a).Cmp(value(p, width)) != 0 {
		t.Fatalf("%v, packed in %d: %v", p, width, a)
	}
	same := func(c, d api.Int) bool { return limbs.Cmp(c, d) == 0 && len(c.L) == len(d.L) }
	if got := Poly(a, width); !slices.EqualFunc(got, p, same) {
		t.Fatalf("%v, there and back in %d: %v", p, width, got)
	}
	if len(p) > 0 && limbs.Bits(a)/(32*width) != len(p)-1 {
		t.Fatalf("%v, packed in %d: %d bits", p, width, limbs.Bits(a))
	}
}

func TestThereAndBack(t *testing.T) {
	expectBack(t, nil, 1)
	d := rand.New(rand.NewSource(11))
	for width := 1; width <= 3; width++ {
		some := edges(width)
		for _, lead := range some[1:] {
			expectBack(t, api.Poly{lead}, width)
			for _, c := range some {
				expectBack(t, api.Poly{c, lead}, width)
				for n := range 8 {
					p := make(api.Poly, n)
					for i := range p {
						p[i] = some[d.Intn(len(some))]
					}
					expectBack(t, append(p, c, lead), width)
				}
				// All as great as can be, of one sign, takes most of the lead.
				expectBack(t, append(slices.Repeat(api.Poly{c}, 20), lead), width)
			}
		}
	}
}
