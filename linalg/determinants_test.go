package linalg_test

import (
	"math/big"
	"math/rand"
	"testing"

	"ashlar/api"
	"ashlar/linalg"
	"ashlar/upoly"
)

func expectDet(t *testing.T, m [][]api.Poly, want bigPoly) {
	t.Helper()
	got, e := linalg.Det(m)
	if e != api.OK {
		t.Fatalf("P7.2: Det %s: error %d", name(m), e)
	}
	expectPoly(t, "P7.2: Det "+name(m), got, want)
}

func TestDet(t *testing.T) {
	expectDet(t, [][]api.Poly{{p(0, 1), p(1)}, {p(1), p(0, 1)}}, toBig(p(-1, 0, 1)))
	expectDet(t, [][]api.Poly{{p(1), p(2)}, {p(3), p(4)}}, toBig(p(-2)))
	expectDet(t, [][]api.Poly{{p(5, -1)}}, toBig(p(5, -1)))
	count := 0
	for _, m := range samples() {
		if len(m) == len(m[0]) {
			count++
			expectDet(t, m, bigDet(toBigMatrix(m)))
			expectDet(t, paddedMatrix(m), bigDet(toBigMatrix(m)))
		}
	}
	if count < 40 {
		t.Errorf("only %d samples are square", count)
	}
}

func TestDetOfZero(t *testing.T) {
	for n := 1; n < 30; n++ {
		expectDet(t, zeroMatrix(n, n), nil)
	}
	for _, m := range [][][]api.Poly{
		{{nil, p(1)}, {nil, p(0, 1)}}, {{p(1), nil}, {p(0, 1), nil}}, {{p(1), p(2)}, {nil, nil}}, {{nil, nil}, {p(1), p(2)}},
		{{p(1), p(2)}, {p(2), p(4)}}, {{p(0, 1), p(0, 0, 1)}, {p(1), p(0, 1)}},
	} {
		expectDet(t, m, nil)
	}
}

// Each order of the rows has its sign, whichever row is taken first.
func TestDetOfAllOrders(t *testing.T) {
	rows := [][]api.Poly{
		{p(1), p(0, 1), nil, p(2)}, {nil, p(3, 0, 1), p(1), p(0, 0, 0, 1)}, {p(0, 5), p(-1), p(1, 1), nil}, {p(7), nil, p(0, 0, 2), p(-1)},
	}
	orders(4, func(order []int) {
		var m, columns [][]api.Poly
		for _, i := range order {
			m = append(m, rows[i])
		}
		for i := range rows {
			columns = append(columns, nil)
			for _, row := range m {
				columns[i] = append(columns[i], row[i])
			}
		}
		expectDet(t, m, bigDet(toBigMatrix(m)))
		expectDet(t, columns, bigDet(toBigMatrix(m)))
	})
}

func TestDetOfExchanges(t *testing.T) {
	orders(5, func(order []int) {
		m := zeroMatrix(5, 5)
		for i, j := range order {
			m[i][j] = p(0, int64(i+1))
		}
		expectDet(t, m, bigDet(toBigMatrix(m)))
	})
}

// orders calls f with each order of the first n numbers.
func orders(n int, f func(order []int)) {
	var walk func(order []int, used int)
	walk = func(order []int, used int) {
		if len(order) == n {
			f(order)
		}
		for i := range n {
			if used>>i&1 == 0 {
				walk(append(order, i), used|1<<i)
			}
		}
	}
	walk(make([]int, 0, n), 0)
}

// Determinants whose entries are as great as the matrix allows, of both signs, at
// the edges of limbs.
func TestDetOfEdges(t *testing.T) {
	for bits := uint(1); bits < 70; bits++ {
		most := fromBig(new(big.Int).Sub(new(big.Int).Lsh(big.NewInt(1), bits), big.NewInt(1)))
		power := fromBig(new(big.Int).Lsh(big.NewInt(-1), bits-1))
		for _, a := range []api.Int{most, power} {
			for _, q := range []api.Poly{{a}, {{}, a}, {a, a}, {upoly.Scale(api.Poly{a}, power)[0], {}, a}} {
				for n := 1; n <= 3; n++ {
					m := zeroMatrix(n, n)
					for i := range m {
						m[i][n-1-i] = q
					}
					expectDet(t, m, bigDet(toBigMatrix(m)))
				}
				m := [][]api.Poly{{q, {most}}, {{power}, q}}
				expectDet(t, m, bigDet(toBigMatrix(m)))
			}
		}
	}
}

// What is too great to be expanded is held against its values modulo a prime.
func TestDetOfGreatOnes(t *testing.T) {
	d := rand.New(rand.NewSource(71))
	for _, m := range [][][]api.Poly{
		randomMatrix(d, 12, 12, 6, 9), randomMatrix(d, 20, 20, 4, 2), randomMatrix(d, 30, 30, 1, 1), randomMatrix(d, 37, 37, 1, 1),
		randomMatrix(d, 10, 10, 1, 300), randomMatrix(d, 2, 2, 1000, 20), randomMatrix(d, 5, 5, 100, 30),
	} {
		got, e := linalg.Det(m)
		if e != api.OK || !isNormal(got) {
			t.Fatalf("P7.2: Det %s: error %d", name(m), e)
		}
		for _, x := range places() {
			columns, want := modSteps(toBigMatrix(m), x)
			if len(columns) < len(m) {
				want = 0
			}
			if modEval(toBig(got), x) != want {
				t.Errorf("P7.2: Det %s: another value at %d", name(m), x)
			}
		}
	}
}

// The determinant of the powers of x, x + 1, .. is a number: all that holds x
// must cancel.
func TestDetOfPowers(t *testing.T) {
	for n := 1; n <= 9; n++ {
		m := make([][]api.Poly, n)
		want := big.NewInt(1)
		for i := range m {
			q := p(1)
			for range n {
				m[i] = append(m[i], q)
				q = upoly.Mul(q, p(int64(i), 1))
			}
			for j := range i {
				want.Mul(want, big.NewInt(int64(i-j)))
			}
		}
		expectDet(t, m, bigPoly{want})
	}
}
