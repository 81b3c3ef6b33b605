package split_test

import (
	"math"
	"math/big"
	"math/bits"
	"math/rand"
	"reflect"
	"testing"

	"ashlar/api"
	"ashlar/limbs"
	"ashlar/seq"
	"ashlar/split"
)

func TestRangeExamples(t *testing.T) {
	m, d, e := split.Range(fibonacci(t), 0, 5)
	want := matrix{{big.NewInt(3), big.NewInt(5)}, {big.NewInt(5), big.NewInt(8)}}
	if e != api.OK || !isMatrix(m, want) || !isInt(d, big.NewInt(1)) {
		t.Errorf("P13.2: Range(Fibonacci, 0, 5): %v, %v, %d", m, d, e)
	}
}

func TestRangesOfAllKinds(t *testing.T) {
	for _, c := range plainPairs() {
		s := c.define(t)
		for _, from := range []int{0, 1, 3, 8, 20} {
			for _, n := range []int{0, 1, 2, 3, 4, 5, 7, 8, 9, 10, 16, 17, 18, 33, 60} {
				expectRange(t, s, from, from+n)
			}
		}
	}
}

// Ranges of all lengths, for few steps and for many, of orders that are taken by
// halves soon and late.
func TestRangesOfAllLengths(t *testing.T) {
	d := rand.New(rand.NewSource(132))
	for order, most := range []int{0, 40, 40, 60, 80, 80, 80} {
		if order == 0 {
			continue
		}
		s := longPair(d, order, 1, 1).define(t)
		for n := range most {
			from := d.Intn(9)
			if e := expectRange(t, s, from, from+n); e != api.OK {
				t.Errorf("P13.2: Range(%s, %d, %d): %d", modelOf(s), from, from+n, e)
			}
		}
	}
}

// The product of the steps, one by one, as Step tells them; and what meets.
func TestRangesMeet(t *testing.T) {
	for _, c := range plainPairs() {
		s := c.define(t)
		from := 0
		for _, n := range s.Singular() {
			from = n + 1
		}
		to := from + 40
		whole, number, e := split.Range(s, from, to)
		if e != api.OK {
			t.Fatalf("P13.2: Range(%s, %d, %d): %d", modelOf(s), from, to, e)
		}
		m, d := square(s.Order(), 0, big.NewInt(1)), big.NewInt(1)
		for k := from; k < to; k++ {
			next, by, _ := split.Step(s, k)
			m, d = toMatrix(next).times(m), d.Mul(d, bigInt(by))
		}
		if !isMatrix(whole, m) || !isInt(number, d) {
			t.Errorf("P13.2: Range(%s, %d, %d) is not the product of the steps", modelOf(s), from, to)
		}
		for middle := from; middle <= to; middle += 3 {
			low, by, _ := split.Range(s, from, middle)
			high, more, _ := split.Range(s, middle, to)
			if !isMatrix(whole, toMatrix(high).times(toMatrix(low))) || !isInt(number, new(big.Int).Mul(bigInt(by), bigInt(more))) {
				t.Errorf("P13.2: of %s: the ranges %d to %d and %d to %d do not make the whole", modelOf(s), from, middle, middle, to)
			}
		}
	}
}

// The number times the vector at to is the matrix times the vector at from.
func TestRangesLead(t *testing.T) {
	for _, plain := range plainPairs() {
		for _, c := range []pair{plain, plain.longer(5)} {
			s := c.define(t)
			values := modelOf(s).values(100)
			for _, from := range []int{0, 1, 2, 5, 13} {
				for _, to := range []int{from, from + 1, 30, 64} {
					m, d, e := split.Range(s, from, to)
					if e == api.OK && !toMatrix(m).leads(bigInt(d), values, from, to) {
						t.Errorf("P13.2: Range(%s, %d, %d) does not lead on", modelOf(s), from, to)
					}
				}
			}
		}
	}
}

// From = to is the matrix with ones on the diagonal, at singular numbers too.
func TestEmptyRanges(t *testing.T) {
	for _, c := range plainPairs() {
		s := c.define(t)
		one := square(s.Order(), 0, big.NewInt(1))
		for _, n := range []int{0, 1, 2, 3, 6, 9, 100} {
			m, d, e := split.Range(s, n, n)
			if e != api.OK || !isMatrix(m, one) || !isInt(d, big.NewInt(1)) {
				t.Errorf("P13.2: Range(%s, %d, %d): %v, %v, %d", modelOf(s), n, n, m, d, e)
			}
		}
	}
	for _, s := range []*seq.Seq{fibonacci(t), factorials(t)} {
		if e := expectRange(t, s, 4096, 4096); e != api.OK {
			t.Errorf("P13.2: Range(%s, 4096, 4096): %d", modelOf(s), e)
		}
	}
}

// A singular number just ahead of a range, at from, at to - 1, and at to.
func TestSingularInRanges(t *testing.T) {
	s := filled(api.Op{p(2), p(0, 1), at(3, 7, 7, -2)}, 10, values(1, 2, 3, 4)).define(t)
	for from := range 12 {
		for to := from; to < 14; to++ {
			want := api.OK
			if from <= 3 && 3 < to || from <= 7 && 7 < to {
				want = api.ErrIndex
			}
			if e := expectRange(t, s, from, to); e != want {
				t.Errorf("P13.2: Range(.., %d, %d): %d, not %d", from, to, e, want)
			}
		}
	}
	far := farFree(t)
	for _, c := range []struct {
		from, to int
		want     api.Errno
	}{{4094, 4094, api.OK}, {4093, 4094, api.OK}, {4094, 4095, api.ErrIndex}, {4093, 4095, api.ErrIndex}, {4095, 4096, api.OK}, {0, 4096, api.ErrIndex}, {4095, 4097, api.ErrArg}} {
		if e := expectRange(t, far, c.from, c.to); e != c.want {
			t.Errorf("P13.2: Range(.., %d, %d): %d, not %d", c.from, c.to, e, c.want)
		}
	}
}

func TestRangeArguments(t *testing.T) {
	bounds := []int{math.MinInt, -4097, -1, 0, 1, 3, 4096, 4097, math.MaxInt}
	var none []*seq.Seq
	for _, c := range pairsOfNoOrder() {
		none = append(none, c.define(t))
	}
	for _, from := range bounds {
		for _, to := range bounds {
			for _, s := range append(none, nil, &seq.Seq{}, seq.Poly(nil)) {
				if e := expectRange(t, s, from, to); e != api.ErrArg {
					t.Errorf("P13.2: Range(%s, %d, %d): %d", modelOf(s), from, to, e)
				}
			}
			if 0 <= from && from <= to && to <= 4096 {
				continue
			}
			for _, s := range []*seq.Seq{fibonacci(t), seq.Const(over(1, 3)), seq.Poly(power(60)), pair{api.Op{p(0, -1), at(2)}, values(1, 0, 0, 7)}.define(t)} {
				if e := expectRange(t, s, from, to); e != api.ErrArg {
					t.Errorf("P13.2: Range(%s, %d, %d): %d", modelOf(s), from, to, e)
				}
			}
		}
	}
}

// The longest range, by other roads: Fibonacci's numbers, and factorials.
func TestTheLongestRanges(t *testing.T) {
	numbers := []*big.Int{big.NewInt(1), big.NewInt(0)} // That at -1 comes first.
	for k := range 4097 {
		numbers = append(numbers, new(big.Int).Add(numbers[k], numbers[k+1]))
	}
	for _, n := range []int{1000, 4095, 4096} {
		m, d, e := split.Range(fibonacci(t), 0, n)
		if e != api.OK || !isMatrix(m, matrix{numbers[n : n+2], numbers[n+1 : n+3]}) || !isInt(d, big.NewInt(1)) {
			t.Errorf("P13.2: Range(Fibonacci, 0, %d): %d", n, e)
		}
		m, d, e = split.Range(factorials(t), 0, n)
		if e != api.OK || !isMatrix(m, matrix{{new(big.Int).MulRange(1, int64(n))}}) || !isInt(d, big.NewInt(1)) {
			t.Errorf("P13.2: Range(n!, 0, %d): %d", n, e)
		}
		inverses := pair{api.Op{p(-1), p(1, 1)}, values(1)}.define(t)
		m, d, e = split.Range(inverses, 1, n)
		if e != api.OK || !isMatrix(m, matrix{{big.NewInt(1)}}) || !isInt(d, new(big.Int).MulRange(2, int64(n))) {
			t.Errorf("P13.2: Range(1/n!, 1, %d): %d", n, e)
		}
	}
	// (S - 1)^2 leads from n, 1 to n + k, 1: 1 - k, k; -k, k + 1.
	for _, k := range []int64{1, 700, 4096} {
		m, d, e := split.Range(seq.Poly(p(3, 4)), 0, int(k))
		want := matrix{{big.NewInt(1 - k), big.NewInt(k)}, {big.NewInt(-k), big.NewInt(k + 1)}}
		if e != api.OK || !isMatrix(m, want) || !isInt(d, big.NewInt(1)) {
			t.Errorf("P13.2: Range(4x + 3, 0, %d): %v, %d", k, toMatrix(m), e)
		}
	}
}

// Estimates that are 2^20 just, by the operator's bits: to is told there, and with
// a bit more it is not, whatever from is.
func TestRangesAtTheLimit(t *testing.T) {
	for _, c := range []struct{ r, d, n int }{
		{1, 0, 3}, {1, 3, 3}, {1, 2, 7}, {1, 0, 1023}, {3, 0, 7}, {3, 7, 31}, {7, 2, 15}, {15, 0, 31}, {63, 0, 127}, {1, 30, 255}, {1, 1, 4095}, {3, 0, 4095}, {1, 2, 2047},
	} {
		k := (1<<20)/((c.n+1)*(c.r+1)) - (c.d+1)*(bits.Len(uint(c.n))+1) - 8
		for more, want := range []api.Errno{api.OK, api.OK, api.ErrBig} {
			s := pair{opOf(c.r, c.d, k-1+more), make([]api.Rat, c.r)}.define(t)
			for _, from := range []int{0, c.n / 2, c.n - 1, c.n} {
				if from < 0 {
					continue
				}
				if from == 0 && c.r > 3 && want == api.OK {
					continue // The model's product takes long.
				}
				if e := expectRange(t, s, from, c.n); e != want {
					t.Errorf("P13.2: order %d, degree %d, %d bits, from %d to %d: %d, not %d", c.r, c.d, k-1+more, from, c.n, e, want)
				}
			}
			expectRange(t, s, 0, min(c.n+1, 5))
			expectRange(t, s, c.n+1, c.n+1)
		}
	}
}

// The same by the window's bits, of which the steps know nothing.
func TestRangesAtTheLimitOfWindows(t *testing.T) {
	for _, n := range []int{0, 1, 3, 7, 255, 1023} {
		w := (1<<20)/(n+1) - 1
		for more, want := range []api.Errno{api.OK, api.OK, api.ErrBig} {
			s := seq.Const(api.Rat{Num: limbs.Of(-1), Den: bitsOf(w - 2 + more)})
			if e := expectRange(t, s, 0, n); e != want {
				t.Errorf("P13.2: a value of %d bits, up to %d: %d, not %d", w-1+more, n, e, want)
			}
		}
	}
	steep := seq.Poly(power(60)) // Told up to 224.
	for to, want := range map[int]api.Errno{0: api.OK, 61: api.OK, 224: api.OK, 225: api.ErrBig, 4096: api.ErrBig} {
		if e := expectRange(t, steep, max(to-3, 0), to); e != want {
			t.Errorf("P13.2: Range(x^60, .., %d): %d, not %d", to, e, want)
		}
	}
}

// ErrArg comes ahead of ErrBig, and that ahead of ErrIndex.
func TestOrderOfRangeErrors(t *testing.T) {
	// (x - 2) S - 2^9999 with a free value: an estimate above MaxBits from 51 on.
	s := filled(api.Op{{limbs.Neg(bitsOf(10000))}, at(2)}, 4, values(0, 5)).define(t)
	for _, c := range []struct {
		from, to int
		want     api.Errno
	}{
		{0, 2, api.OK}, {0, 3, api.ErrIndex}, {2, 51, api.ErrIndex}, {3, 51, api.OK}, {2, 52, api.ErrBig}, {0, 60, api.ErrBig}, {60, 60, api.ErrBig}, {52, 52, api.ErrBig}, {51, 51, api.OK},
		{0, 4097, api.ErrArg}, {-1, 60, api.ErrArg}, {-1, 3, api.ErrArg}, {61, 60, api.ErrArg}, {3, 2, api.ErrArg}, {4096, 4096, api.ErrBig}, {4097, 4097, api.ErrArg},
	} {
		if e := expectRange(t, s, c.from, c.to); e != c.want {
			t.Errorf("P13.2: Range(.., %d, %d): %d, not %d", c.from, c.to, e, c.want)
		}
	}
}

func TestRandomRanges(t *testing.T) {
	d := rand.New(rand.NewSource(133))
	for range 300 {
		s := randomPair(d, d.Intn(5)).define(t)
		from := d.Intn(14)
		expectRange(t, s, from, from+d.Intn(40))
	}
	for range 20 {
		from := d.Intn(20)
		expectRange(t, longPair(d, 1+d.Intn(6), d.Intn(3), 1+d.Intn(3)).define(t), from, from+20+d.Intn(60))
	}
}

// A high order: fewer steps than rows, as many, and more.
func TestRangesOfHighOrders(t *testing.T) {
	d := rand.New(rand.NewSource(134))
	for _, order := range []int{9, 17, 30} {
		s := longPair(d, order, 0, 1).define(t)
		for _, n := range []int{1, order - 1, order, order + 1, 3 * order, 150} {
			expectRange(t, s, 2, 2+n)
		}
	}
	s := seq.Poly(power(40))
	for _, n := range []int{1, 40, 41, 42, 100} {
		expectRange(t, s, 0, n)
	}
}

// Forms that are not normal say the same.
func TestRangesOfForms(t *testing.T) {
	for _, c := range plainPairs() {
		plain, other := c.define(t), pair{padded(c.a), raised(c.win)}.define(t)
		for _, to := range []int{0, 1, 5, 30} {
			m, d, e := split.Range(plain, 0, to)
			n, f, g := split.Range(other, 0, to)
			if !reflect.DeepEqual(m, n) || !reflect.DeepEqual(d, f) || e != g {
				t.Errorf("P13.2: Range(%s, 0, %d): %d, in another form %d, or other numbers", modelOf(plain), to, e, g)
			}
		}
	}
}
