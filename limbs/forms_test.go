package limbs_test

import (
	"encoding/binary"
	"math/big"
	"testing"

	"ashlar/api"
)

// The oracle of these tests is math/big, which the program itself may not use.

func toBig(a api.Int) *big.Int {
	raw := make([]byte, 4*len(a.L))
	for i, w := range a.L {
		binary.BigEndian.PutUint32(raw[len(raw)-4*i-4:], w)
	}
	z := new(big.Int).SetBytes(raw)
	if a.Neg {
		z.Neg(z)
	}
	return z
}

func fromBig(x *big.Int) api.Int {
	raw := make([]byte, (x.BitLen()+31)/32*4)
	new(big.Int).Abs(x).FillBytes(raw)
	a := api.Int{Neg: x.Sign() < 0}
	for i := len(raw) - 4; i >= 0; i -= 4 {
		a.L = append(a.L, binary.BigEndian.Uint32(raw[i:]))
	}
	return a
}

// parse takes what big.Int's SetString takes with base 0.
func parse(s string) api.Int {
	x, ok := new(big.Int).SetString(s, 0)
	if !ok {
		panic("no number: " + s)
	}
	return fromBig(x)
}

func isNormal(a api.Int) bool {
	if len(a.L) == 0 {
		return !a.Neg
	}
	return a.L[len(a.L)-1] != 0
}

// expect tells whether an answer is a number, in normal form.
func expect(t *testing.T, what string, got api.Int, want *big.Int) {
	t.Helper()
	if !isNormal(got) {
		t.Errorf("%s: not in normal form: %v", what, short(got))
	}
	if toBig(got).Cmp(want) != 0 {
		t.Errorf("%s: %s, not %s", what, cut(toBig(got).String()), cut(want.String()))
	}
}

func cut(s string) string {
	if len(s) > 60 {
		return s[:60] + ".."
	}
	return s
}

func short(a api.Int) api.Int {
	return api.Int{Neg: a.Neg, L: a.L[:min(len(a.L), 8)]}
}

// dice gives the same numbers in every run.
type dice uint64

func (d *dice) next() uint32 {
	*d ^= *d << 13
	*d ^= *d >> 7
	*d ^= *d << 17
	return uint32(*d >> 20)
}

func (d *dice) below(n int) int { return int(d.next()) % n }

// limb prefers those at which carries, and guesses of quotients, go wrong.
func (d *dice) limb() uint32 {
	switch d.below(8) {
	case 0, 1:
		return 0
	case 2, 3:
		return 1<<32 - 1
	case 4:
		return 1 << 31
	case 5:
		return 1
	}
	return d.next()
}

func (d *dice) number(limbs int) api.Int {
	a := api.Int{Neg: d.below(2) == 0}
	for range limbs {
		a.L = append(a.L, d.limb())
	}
	return a
}

// samples are numbers at the edges, in normal form and in others.
func samples() []api.Int {
	var as []api.Int
	for _, s := range []string{
		"0", "1", "2", "3", "7", "12", "18", "999999999", "1000000000", "1000000001",
		"0x7fffffff", "0x80000000", "0xffffffff", "0x100000000", "0x100000001",
		"999999999999999999", "1000000000000000000", "0x7ffffffffffffffe",
		"0x7fffffffffffffff", "0x8000000000000000", "0x8000000000000001",
		"0xffffffffffffffff", "0x10000000000000000", "0x10000000000000001",
		"10000000000000000000000000000000000000000", "0xffffffffffffffffffffffffffffffff",
		"0x80000000000000000000000000000000", "0x7fffffff8000000000000001",
	} {
		a := parse(s)
		as = append(as, a, api.Int{Neg: true, L: a.L}, api.Int{Neg: true, L: append(a.L[:len(a.L):len(a.L)], 0, 0)})
	}
	as = append(as, api.Int{L: []uint32{}}, api.Int{L: []uint32{0}}, api.Int{Neg: true, L: []uint32{0, 0, 0}})
	d := dice(7)
	for _, n := range []int{3, 9, 39, 79, 80, 81, 161, 240} {
		as = append(as, d.number(n), d.number(n))
	}
	return as
}

// eachPair goes over all pairs of samples.
func eachPair(f func(a, b api.Int)) {
	as := samples()
	for _, a := range as {
		for _, b := range as {
			f(a, b)
		}
	}
}

// eachGreatPair goes over pairs of greater numbers, of like and unlike lengths.
func eachGreatPair(f func(a, b api.Int)) {
	d := dice(11)
	for range 150 {
		f(d.number(1+d.below(900)), d.number(1+d.below(500)))
	}
	for range 60 {
		n := 60 + d.below(300)
		f(d.number(n), d.number(n+d.below(3)))
	}
}
