package gauge_test

import (
	"encoding/binary"
	"fmt"
	"math/big"
	"slices"

	"ashlar/api"
)

// The oracle of these tests is the document's table, written once more with
// math/big, which the program itself may not use: nothing wraps there, and what
// is greater than 2^62 is stopped at the end alone.

const top = 1 << 62

// given is what the calls of the table are handed.
type given struct {
	a, b   api.Op
	f      api.Poly
	q      api.Int
	wa, wb []api.Rat
	n      int
}

func (g given) String() string {
	return fmt.Sprintf("(%s), (%s), f (%s), q of %d bits, windows %s and %s, n %d",
		sizeOf(g.a), sizeOf(g.b), sizeOf(api.Op{g.f}), bigInt(g.q).BitLen(), viewOf(g.wa), viewOf(g.wb), g.n)
}

func bigInt(a api.Int) *big.Int {
	var text []byte
	for _, w := range slices.Backward(a.L) {
		text = binary.BigEndian.AppendUint32(text, w)
	}
	x := new(big.Int).SetBytes(text)
	if a.Neg {
		x.Neg(x)
	}
	return x
}

// size is an operator's: order and degree are -1 of zero.
type size struct{ order, degree, bits int }

func (s size) String() string {
	return fmt.Sprintf("order %d, degree %d, bits %d", s.order, s.degree, s.bits)
}

func sizeOf(a api.Op) size {
	out := size{-1, -1, 0}
	for i, p := range a {
		for j, c := range p {
			if n := bigInt(c).BitLen(); n > 0 {
				out = size{i, max(out.degree, j), max(out.bits, n)}
			}
		}
	}
	return out
}

// gauged is the size that the table reads: of zero 0, 0, 0.
func gauged(a api.Op) (int, int, int) {
	s := sizeOf(a)
	return max(s.order, 0), max(s.degree, 0), s.bits
}

// view is a window's: its length and its bits.
type view struct{ length, bits int }

func (v view) String() string { return fmt.Sprintf("of %d values, %d bits", v.length, v.bits) }

func viewOf(win []api.Rat) view {
	out := view{length: len(win)}
	for _, v := range win {
		x := new(big.Rat)
		if den := bigInt(v.Den); den.Sign() != 0 {
			x.SetFrac(bigInt(v.Num), den)
		}
		out.bits = max(out.bits, x.Num().BitLen()+x.Denom().BitLen())
	}
	return out
}

// number gives the number of an int or of a *big.Int.
func number(x any) *big.Int {
	if n, ok := x.(int); ok {
		return big.NewInt(int64(n))
	}
	return x.(*big.Int)
}

func plus(xs ...any) *big.Int {
	out := new(big.Int)
	for _, x := range xs {
		out.Add(out, number(x))
	}
	return out
}

func by(xs ...any) *big.Int {
	out := big.NewInt(1)
	for _, x := range xs {
		out.Mul(out, number(x))
	}
	return out
}

// greatest gives the greatest of numbers, stopped.
func greatest(xs ...*big.Int) int {
	out := 0
	for _, x := range xs {
		if x.Cmp(big.NewInt(top)) > 0 {
			return top
		}
		out = max(out, int(x.Int64()))
	}
	return out
}

func wantMul(g given) int {
	r, d, k := gauged(g.a)
	s, e, l := gauged(g.b)
	m := bigInt(g.q).BitLen()
	return greatest(by(plus(r, 1), plus(s, 1), plus(d, e, 2), plus(k, l, by(plus(r, 1), plus(e, 1)), by(r, plus(e, 1), m), 8)))
}

func wantApply(g given) int {
	r, d, k := gauged(g.a)
	f := sizeOf(api.Op{g.f})
	m := bigInt(g.q).BitLen()
	return greatest(by(plus(r, 1), plus(d, f.degree, 3), plus(k, f.bits, by(plus(r, 1), plus(f.degree, 2), plus(m, 8)))))
}

func wantDivide(g given) int {
	r, d, k := gauged(g.a)
	s, e, l := gauged(g.b)
	m := bigInt(g.q).BitLen()
	return greatest(by(plus(r, 1), plus(s, 1), plus(r, s, 2), plus(d, e, 2), plus(k, l, by(plus(r, 1), plus(m, 2)), 8)))
}

func wantCommon(g given) int {
	r, d, k := gauged(g.a)
	s, e, l := gauged(g.b)
	m := bigInt(g.q).BitLen()
	n := plus(r, s, 2)
	return greatest(by(n, n, n, plus(by(n, plus(d, e)), 2), plus(k, l, by(plus(r, s, 1), plus(m, 2)), 8)))
}

func wantTerm(g given) int {
	r, d, k := gauged(g.a)
	n := max(g.n, 0)
	bits := number(n).BitLen()
	first := by(plus(n, 1), plus(r, 1), plus(k, by(plus(d, 1), plus(bits, 1)), 8))
	return greatest(first, by(plus(n, 1), plus(viewOf(g.wa).bits, 1)))
}

func wantWindows(g given) *big.Int {
	v, w := viewOf(g.wa), viewOf(g.wb)
	return by(plus(v.length, w.length, 1), plus(v.bits, w.bits, 1))
}

func wantClose(g given) int {
	r, d, k := gauged(g.a)
	s, e, l := gauged(g.b)
	n := by(plus(r, 1), plus(s, 1))
	return greatest(by(n, n, n, plus(by(n, plus(d, e)), 1), plus(k, l, 8)), wantWindows(g))
}

func wantTurn(g given) int {
	r, d, k := gauged(g.a)
	n := plus(r, d, 2)
	return greatest(by(n, n, n, plus(d, 2), plus(k, 8)))
}

func wantCauchy(g given) int {
	r, d, k := gauged(g.a)
	s, e, l := gauged(g.b)
	n := by(plus(d, 1), plus(e, 1))
	return greatest(by(n, n, n, by(n, plus(r, s, d, e, 2)), plus(k, l, 8)), wantWindows(g))
}
