package linalg_test

import (
	"fmt"
	"math/big"
	"math/bits"
	"slices"
	"testing"

	"ashlar/api"
)

// The oracle of these tests is math/big, which the program itself may not use:
// polynomials are lists of *big.Int, the last not 0. What is too great for it is
// looked at modulo a prime, at some values of x.

type bigPoly []*big.Int

type bigMatrix [][]bigPoly

func bigInt(a api.Int) *big.Int {
	x := new(big.Int)
	for _, w := range slices.Backward(a.L) {
		x.Lsh(x, 32).Or(x, big.NewInt(int64(w)))
	}
	if a.Neg {
		x.Neg(x)
	}
	return x
}

func fromBig(x *big.Int) api.Int {
	out := api.Int{Neg: x.Sign() < 0}
	low := big.NewInt(0xffffffff)
	for y := new(big.Int).Abs(x); y.Sign() > 0; y.Rsh(y, 32) {
		out.L = append(out.L, uint32(new(big.Int).And(y, low).Uint64()))
	}
	return out
}

func toBig(p api.Poly) bigPoly {
	out := bigPoly{}
	for _, c := range p {
		out = append(out, bigInt(c))
	}
	return cut(out)
}

func toBigs(ps []api.Poly) []bigPoly {
	var out []bigPoly
	for _, p := range ps {
		out = append(out, toBig(p))
	}
	return out
}

func toBigMatrix(m [][]api.Poly) bigMatrix {
	var out bigMatrix
	for _, row := range m {
		out = append(out, toBigs(row))
	}
	return out
}

func cut(p bigPoly) bigPoly {
	for len(p) > 0 && p[len(p)-1].Sign() == 0 {
		p = p[:len(p)-1]
	}
	return p
}

func zeroes(n int) bigPoly {
	out := make(bigPoly, n)
	for i := range out {
		out[i] = new(big.Int)
	}
	return out
}

func bigAdd(p, q bigPoly) bigPoly {
	out := zeroes(max(len(p), len(q)))
	for i, c := range p {
		out[i].Add(out[i], c)
	}
	for i, c := range q {
		out[i].Add(out[i], c)
	}
	return cut(out)
}

func bigMul(p, q bigPoly) bigPoly {
	out := zeroes(len(p) + len(q))
	for i, a := range p {
		for j, b := range q {
			out[i+j].Add(out[i+j], new(big.Int).Mul(a, b))
		}
	}
	return cut(out)
}

func bigNeg(p bigPoly) bigPoly { return bigMul(p, bigPoly{big.NewInt(-1)}) }

func bigTimes(m bigMatrix, v []bigPoly) []bigPoly {
	out := make([]bigPoly, len(m))
	for i, row := range m {
		for j, p := range row {
			out[i] = bigAdd(out[i], bigMul(p, v[j]))
		}
	}
	return out
}

// bigDet expands by rows from the first on, each minor of the last rows once.
func bigDet(m bigMatrix) bigPoly {
	known := map[uint]bigPoly{0: {big.NewInt(1)}}
	var minor func(columns uint) bigPoly
	minor = func(columns uint) bigPoly {
		if d, ok := known[columns]; ok {
			return d
		}
		row := m[len(m)-bits.OnesCount(columns)]
		var sum bigPoly
		ahead := 0
		for j, p := range row {
			if columns>>j&1 == 0 {
				continue
			}
			d := bigMul(p, minor(columns&^(1<<j)))
			if ahead%2 == 1 {
				d = bigNeg(d)
			}
			sum = bigAdd(sum, d)
			ahead++
		}
		known[columns] = sum
		return sum
	}
	return minor(1<<len(m) - 1)
}

// modulus is a prime.
const modulus = 1<<61 - 1

func modTimes(a, b uint64) uint64 {
	high, low := bits.Mul64(a, b)
	return bits.Rem64(high, low, modulus)
}

func modOf(x *big.Int) uint64 {
	return new(big.Int).Mod(x, big.NewInt(modulus)).Uint64()
}

func modInverse(a uint64) uint64 {
	out := uint64(1)
	for n := uint64(modulus - 2); n > 0; n /= 2 {
		if n%2 == 1 {
			out = modTimes(out, a)
		}
		a = modTimes(a, a)
	}
	return out
}

// modEval gives p at x.
func modEval(p bigPoly, x uint64) uint64 {
	var v uint64
	for _, c := range slices.Backward(p) {
		v = (modTimes(v, x) + modOf(c)) % modulus
	}
	return v
}

// modSteps brings m at x to steps, and gives the columns in which there is one,
// and the product of what stands there with the sign of the exchanges.
func modSteps(m bigMatrix, x uint64) ([]int, uint64) {
	var rows [][]uint64
	for _, row := range m {
		var values []uint64
		for _, p := range row {
			values = append(values, modEval(p, x))
		}
		rows = append(rows, values)
	}
	var columns []int
	det := uint64(1)
	for j := range m[0] {
		k := len(columns)
		i := slices.IndexFunc(rows[k:], func(row []uint64) bool { return row[j] != 0 })
		if i < 0 {
			continue
		}
		if i > 0 {
			rows[k], rows[k+i] = rows[k+i], rows[k]
			det = modTimes(det, modulus-1)
		}
		det = modTimes(det, rows[k][j])
		inverse := modInverse(rows[k][j])
		for _, row := range rows[k+1:] {
			by := modTimes(modulus-row[j], inverse)
			for l := j; l < len(row); l++ {
				row[l] = (row[l] + modTimes(by, rows[k][l])) % modulus
			}
		}
		columns = append(columns, j)
	}
	return columns, det
}

// places are values of x that no polynomial of these tests has for a root by
// chance.
func places() []uint64 { return []uint64{0x123456789abcdef, 0xfedcba987654321} }

// modGcdDegree tells the degree of the greatest common divisor modulo the prime,
// which is not below that of the polynomials themselves, if the prime does not
// divide their leads.
func modGcdDegree(ps []bigPoly) int {
	var g []uint64
	for _, p := range ps {
		var q []uint64
		for _, c := range p {
			q = append(q, modOf(c))
		}
		q = modCut(q)
		for len(q) > 0 {
			g, q = q, modRest(g, q)
		}
	}
	return len(g) - 1
}

func modCut(a []uint64) []uint64 {
	for len(a) > 0 && a[len(a)-1] == 0 {
		a = a[:len(a)-1]
	}
	return a
}

func modRest(a, b []uint64) []uint64 {
	inverse := modInverse(b[len(b)-1])
	a = slices.Clone(a)
	for len(a) >= len(b) {
		by := modTimes(modulus-a[len(a)-1], inverse)
		at := a[len(a)-len(b):]
		for i, c := range b {
			at[i] = (at[i] + modTimes(by, c)) % modulus
		}
		a = modCut(a)
	}
	return a
}

func isInt(got api.Int, want *big.Int) bool {
	normal := len(got.L) == 0 && !got.Neg || len(got.L) > 0 && got.L[len(got.L)-1] != 0
	return normal && bigInt(got).Cmp(want) == 0
}

// isPoly tells whether an answer is a polynomial, in normal form.
func isPoly(got api.Poly, want bigPoly) bool { return slices.EqualFunc(got, want, isInt) }

// isNormal tells whether an answer is in normal form.
func isNormal(got api.Poly) bool { return isPoly(got, toBig(got)) }

// name tells what is handed in or answered, if it is short.
func name(m [][]api.Poly) string {
	s := fmt.Sprint(toBigMatrix(m))
	if len(s) > 400 {
		s = s[:400] + ".."
	}
	return fmt.Sprintf("%d rows %s", len(m), s)
}

func expectPoly(t *testing.T, what string, got api.Poly, want bigPoly) {
	t.Helper()
	if !isPoly(got, want) {
		t.Errorf("%s: %s, not %v", what, name([][]api.Poly{{got}}), want)
	}
}
