package ore_test

import (
	"math/big"
	"math/rand"
	"testing"

	"ashlar/api"
	"ashlar/limbs"
	"ashlar/ore"
	"ashlar/upoly"
)

func TestNormOrderDegreeBitsLead(t *testing.T) {
	for _, a := range append(samples(), sized(300, 40, 900), padded(sized(3, 1000, 20)), make(api.Op, 1<<16)) {
		x := toBigOp(a)
		order, degree, bits := bigSize(x)
		if ore.Order(a) != order || ore.Degree(a) != degree || ore.Bits(a) != bits {
			t.Errorf("P8.3: %s: order %d, degree %d, bits %d", name(a...), ore.Order(a), ore.Degree(a), ore.Bits(a))
		}
		expectOp(t, "P8.3: Norm", ore.Norm(a), x)
		lead := bigPoly{}
		if order >= 0 {
			lead = x[order]
		}
		expectPoly(t, "P8.3: Lead of "+name(a...), ore.Lead(a), lead)
	}
	two := api.Op{p(0, 4), p(0, 2)}
	if ore.Order(two) != 1 || ore.Degree(two) != 1 || ore.Bits(two) != 3 || !upoly.Eq(ore.Lead(two), p(0, 2)) {
		t.Errorf("P8.3: of 2x S + 4x: %d, %d, %d", ore.Order(two), ore.Degree(two), ore.Bits(two))
	}
	// The greatest degree and the greatest bits are of two entries, neither the last.
	apart := api.Op{p(0, 0, 0, 1), p(-256), nil, p(3)}
	if ore.Order(apart) != 3 || ore.Degree(apart) != 3 || ore.Bits(apart) != 9 {
		t.Errorf("P8.3: %s: %d, %d, %d", name(apart...), ore.Order(apart), ore.Degree(apart), ore.Bits(apart))
	}
	for _, z := range zeroOps() {
		if ore.Order(z) != -1 || ore.Degree(z) != -1 || ore.Bits(z) != 0 || len(ore.Lead(z)) > 0 || len(ore.Norm(z)) > 0 {
			t.Errorf("P8.3: of zero: %d, %d, %d, %v", ore.Order(z), ore.Degree(z), ore.Bits(z), ore.Lead(z))
		}
	}
}

func TestEq(t *testing.T) {
	for _, a := range samples() {
		for _, b := range samples() {
			if got, want := ore.Eq(a, b), isOp(ore.Norm(a), toBigOp(b)); got != want {
				t.Errorf("P8.3: Eq of %s and %s: %v", name(a...), name(b...), got)
			}
		}
		if !ore.Eq(a, padded(a)) || !ore.Eq(padded(a), a) {
			t.Errorf("P8.3: Eq of %s in another form", name(a...))
		}
	}
	for _, c := range [][2]api.Op{
		{{p(1)}, {p(1), p(1)}}, {{p(1)}, {nil, p(1)}}, {{p(0, 1)}, {nil, p(1)}}, {{p(1)}, {p(-1)}}, {{p(1), p(2)}, {p(2), p(2)}}, {nil, {nil, p(1)}},
	} {
		if ore.Eq(c[0], c[1]) || ore.Eq(c[1], c[0]) {
			t.Errorf("P8.3: Eq of %s and %s", name(c[0]...), name(c[1]...))
		}
	}
}

func TestAddAndSub(t *testing.T) {
	minus := bigPoly{big.NewInt(-1)}
	for _, a := range samples() {
		for _, b := range samples() {
			x, y := toBigOp(a), toBigOp(b)
			expectOp(t, "P8.3: Add of "+name(a...)+" and "+name(b...), ore.Add(a, b), bigOpAdd(x, y))
			expectOp(t, "P8.3: Sub of "+name(a...)+" and "+name(b...), ore.Sub(a, b), bigOpAdd(x, bigOpScale(minus, y)))
		}
		if got := ore.Sub(a, padded(a)); len(got) > 0 {
			t.Errorf("P8.3: Sub of %s and itself: %v", name(a...), got)
		}
	}
	// What cancels is not in the answer.
	got := ore.Add(api.Op{p(1), p(2, 1), p(0, -3)}, api.Op{nil, p(-2, -1), p(0, 3)})
	expectOp(t, "P8.3: Add", got, bigOp{toBig(p(1))})
}

func TestScale(t *testing.T) {
	for _, a := range samples() {
		for _, f := range polys() {
			expectOp(t, "P8.3: Scale of "+name(a...)+" by "+name(f), ore.Scale(f, a), bigOpScale(toBig(f), toBigOp(a)))
		}
	}
	// The polynomial stands to the left: it goes past nothing.
	for _, k := range few() {
		r := ruleOf(t, k)
		for _, a := range plain() {
			if !ore.Eq(ore.Scale(p(1, 2), a), mul(t, r, api.Op{p(1, 2)}, a)) {
				t.Errorf("P8.3: Scale of %s, %v", name(a...), k)
			}
		}
	}
}

// bigContent gives the greatest common divisor of the entries.
func bigContent(p bigPoly) *big.Int {
	g := new(big.Int)
	for _, c := range p {
		g.GCD(nil, nil, g, new(big.Int).Abs(c))
	}
	return g
}

// bigPrim is of a polynomial that is not zero.
func bigPrim(p bigPoly) bigPoly {
	by := bigContent(p)
	if p[len(p)-1].Sign() < 0 {
		by.Neg(by)
	}
	out := bigPoly{}
	for _, c := range p {
		out = append(out, new(big.Int).Quo(c, by))
	}
	return out
}

// bigGcd goes by Euclid's steps over the rationals.
func bigGcd(p, q bigPoly) bigPoly {
	content := new(big.Int).GCD(nil, nil, bigContent(p), bigContent(q))
	for len(q) > 0 {
		rest := p
		for len(rest) >= len(q) {
			step := zeroes(len(rest) - len(q) + 1)
			step[len(step)-1].Neg(rest[len(rest)-1])
			rest = bigAdd(bigTimes(rest, q[len(q)-1]), bigMul(step, q))
		}
		if len(rest) > 0 {
			rest = bigPrim(rest)
		}
		p, q = q, rest
	}
	if len(p) == 0 {
		return nil
	}
	return bigTimes(bigPrim(p), content)
}

func bigOpContent(a bigOp) bigPoly {
	var g bigPoly
	for _, p := range a {
		g = bigGcd(g, p)
	}
	return g
}

// expectPrim holds Content and Prim against the oracle.
func expectPrim(t *testing.T, a api.Op) {
	t.Helper()
	x := toBigOp(a)
	content := bigOpContent(x)
	expectPoly(t, "P8.3: Content of "+name(a...), ore.Content(a), content)
	got := ore.Prim(a)
	if len(x) == 0 {
		if len(got) > 0 {
			t.Errorf("P8.3: Prim of zero: %v", got)
		}
		return
	}
	last := x[len(x)-1]
	if last[len(last)-1].Sign() < 0 {
		content = bigTimes(content, big.NewInt(-1))
	}
	b := toBigOp(got)
	if !isOp(got, b) {
		t.Errorf("P8.3: Prim of %s: %v is not in normal form", name(a...), got)
	}
	expectOp(t, "P8.3: Prim of "+name(a...)+" times its content", ore.Norm(a), bigOpScale(content, b))
	if limbs.Sign(upoly.Lead(ore.Lead(got))) <= 0 || !upoly.Eq(ore.Content(got), p(1)) {
		t.Errorf("P8.3: Prim of %s: %s", name(a...), name(got...))
	}
}

func TestContentAndPrim(t *testing.T) {
	d := rand.New(rand.NewSource(83))
	factors := []api.Poly{p(1), p(-1), p(6), p(0, -4), p(2, 2), p(-1, 0, 1), p(3, -2, 0, 5), {bitsOf(70), limbs.Of(-9)}, randomPoly(d, 9, 50)}
	for _, a := range samples() {
		expectPrim(t, a)
		for _, f := range factors {
			expectPrim(t, ore.Scale(f, a))
		}
	}
	for rows := 1; rows < 8; rows++ {
		expectPrim(t, ore.Scale(randomPoly(d, 12, 90), random(d, rows, 12, 90)))
	}
	expectPrim(t, sized(2000, 30, 100))
	expectPrim(t, padded(ore.Scale(p(0, 0, -12), sized(200, 3, 10))))
}

func TestContentAndPrimAtTheEdges(t *testing.T) {
	for _, c := range []struct {
		a, prim api.Op
		content api.Poly
	}{
		{api.Op{p(0, 4), p(0, 2)}, api.Op{p(2), p(1)}, p(0, 2)},
		{api.Op{p(0, 4), p(0, -2)}, api.Op{p(-2), p(1)}, p(0, 2)},
		{api.Op{p(0, -4), p(0, -2)}, api.Op{p(2), p(1)}, p(0, 2)},
		{api.Op{p(0, -4), p(0, 2)}, api.Op{p(-2), p(1)}, p(0, 2)},
		{api.Op{p(-5)}, api.Op{p(1)}, p(5)},
		{api.Op{nil, nil, p(1, -1)}, api.Op{nil, nil, p(1)}, p(-1, 1)},
		{api.Op{p(-1, 0, 1), nil, p(-1, -1)}, api.Op{p(1, -1), nil, p(1)}, p(1, 1)},
		{api.Op{p(6), p(10), p(15)}, api.Op{p(6), p(10), p(15)}, p(1)},
		// The lead of the last entry counts, not its other entries, nor the other leads.
		{api.Op{p(0, -3), p(-7, 0, 2)}, api.Op{p(0, -3), p(-7, 0, 2)}, p(1)},
		{api.Op{p(0, 3), p(7, 0, -2)}, api.Op{p(0, -3), p(-7, 0, 2)}, p(1)},
		// The divisor of the first two is not that of all.
		{api.Op{p(0, 6), p(0, 0, 6), p(0, 4)}, api.Op{p(3), p(0, 3), p(2)}, p(0, 2)},
		{api.Op{p(0, 6), p(0, 0, 6), p(9)}, api.Op{p(0, 2), p(0, 0, 2), p(3)}, p(3)},
	} {
		for _, a := range []api.Op{c.a, padded(c.a)} {
			expectPoly(t, "P8.3: Content of "+name(a...), ore.Content(a), toBig(c.content))
			expectOp(t, "P8.3: Prim of "+name(a...), ore.Prim(a), toBigOp(c.prim))
		}
	}
	for _, z := range zeroOps() {
		if c, b := ore.Content(z), ore.Prim(z); len(c)+len(b) > 0 {
			t.Errorf("P8.3: Content and Prim of zero: %v, %v", c, b)
		}
	}
}
