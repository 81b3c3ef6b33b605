package linalg_test

import (
	"math/big"
	"math/rand"
	"slices"
	"testing"

	"ashlar/api"
	"ashlar/linalg"
	"ashlar/upoly"
)

// expectNull holds all that is said of Null against the oracle.
func expectNull(t *testing.T, m [][]api.Poly) {
	t.Helper()
	vectors, rows, columns, e := linalg.Null(m)
	if e != api.OK {
		t.Fatalf("P7.3: Null %s: error %d", name(m), e)
	}
	want := toBigMatrix(m)
	if told := firstColumns(want); !slices.Equal(columns, told) {
		t.Fatalf("P7.3: Null %s: columns %v, not %v", name(m), columns, told)
	}
	expectMinor(t, want, rows, columns)
	if len(vectors) != len(m[0])-len(columns) {
		t.Fatalf("P7.3: Null %s: %d vectors beside columns %v", name(m), len(vectors), columns)
	}
	n := 0
	for j := range m[0] {
		if !slices.Contains(columns, j) {
			expectVector(t, want, vectors[n], columns, j)
			n++
		}
	}
}

// firstColumns gives the columns that are no combination of those to their left.
func firstColumns(m bigMatrix) []int {
	var out []int
	for _, x := range places() {
		// A matrix has no more steps at a value of x than it has itself, and no
		// later ones if as many.
		if columns, _ := modSteps(m, x); len(columns) > len(out) || slices.Compare(columns, out) < 0 {
			out = columns
		}
	}
	return out
}

// expectMinor looks whether the minor of these rows and columns is not zero.
func expectMinor(t *testing.T, m bigMatrix, rows, columns []int) {
	t.Helper()
	if len(rows) != len(columns) || !isRising(rows, len(m)) || !isRising(columns, len(m[0])) {
		t.Fatalf("P7.3: Null: rows %v, columns %v", rows, columns)
	}
	var minor bigMatrix
	for _, i := range rows {
		var row []bigPoly
		for _, j := range columns {
			row = append(row, m[i][j])
		}
		minor = append(minor, row)
	}
	switch {
	case len(minor) == 0:
	case len(minor) < 7:
		if len(bigDet(minor)) == 0 {
			t.Errorf("P7.3: Null of %v: the minor of rows %v, columns %v is zero", m, rows, columns)
		}
	default:
		if len(firstColumns(minor)) < len(minor) {
			t.Errorf("P7.3: Null: the minor of rows %v, columns %v is zero", rows, columns)
		}
	}
}

// isRising tells whether ns are rising numbers from 0 to n - 1.
func isRising(ns []int, n int) bool {
	for i, k := range ns {
		if k < 0 || k >= n || i > 0 && k <= ns[i-1] {
			return false
		}
	}
	return true
}

func expectVector(t *testing.T, m bigMatrix, v []api.Poly, columns []int, j int) {
	t.Helper()
	if len(v) != len(m[0]) || len(toBig(v[j])) == 0 {
		t.Fatalf("P7.3: the vector of column %d: %v", j, v)
	}
	for k, q := range v {
		if !isNormal(q) {
			t.Errorf("P7.3: the vector of column %d: entry %d is not in normal form: %v", j, k, q)
		}
		if len(q) > 0 && k != j && !slices.Contains(columns, k) {
			t.Errorf("P7.3: the vector of column %d: entry %d is %v", j, k, q)
		}
	}
	for i, q := range bigTimes(m, toBigs(v)) {
		if len(q) > 0 {
			t.Errorf("P7.3: m times the vector of column %d, row %d: %v", j, i, q)
		}
	}
	if lead := toBig(v[j]); lead[len(lead)-1].Sign() < 0 {
		t.Errorf("P7.3: the vector of column %d: Lead is %v", j, lead[len(lead)-1])
	}
	if !isPrimitive(toBigs(v)) {
		t.Errorf("P7.3: the vector of column %d is not primitive: %v", j, v)
	}
}

func isPrimitive(v []bigPoly) bool {
	content := new(big.Int)
	for _, q := range v {
		for _, c := range q {
			content.GCD(nil, nil, content, new(big.Int).Abs(c))
		}
	}
	return content.Cmp(big.NewInt(1)) == 0 && modGcdDegree(v) == 0
}

func TestNull(t *testing.T) {
	for _, m := range samples() {
		expectNull(t, m)
	}
}

func TestNullOfGreatOnes(t *testing.T) {
	for _, m := range long() {
		expectNull(t, m)
	}
}

func TestNullOfExamples(t *testing.T) {
	x := p(0, 1)
	for _, c := range []struct {
		m, vectors    [][]api.Poly
		rows, columns []int
	}{
		{[][]api.Poly{{x, p(1)}}, [][]api.Poly{{p(-1), x}}, []int{0}, []int{0}},
		{[][]api.Poly{{p(1), p(2)}, {p(2), p(4)}}, [][]api.Poly{{p(-2), p(1)}}, nil, []int{0}},
		{[][]api.Poly{{x, nil}, {nil, x}}, nil, []int{0, 1}, []int{0, 1}},
		{[][]api.Poly{{nil}}, [][]api.Poly{{p(1)}}, []int{}, []int{}},
		{[][]api.Poly{{nil, nil}}, [][]api.Poly{{p(1), nil}, {nil, p(1)}}, []int{}, []int{}},
		{[][]api.Poly{{nil, x}}, [][]api.Poly{{p(1), nil}}, []int{0}, []int{1}},
		{[][]api.Poly{{p(-6), p(4)}}, [][]api.Poly{{p(2), p(3)}}, []int{0}, []int{0}},
		{[][]api.Poly{{p(0, -6), p(0, 0, 4)}}, [][]api.Poly{{p(0, 2), p(3)}}, []int{0}, []int{0}},
		{[][]api.Poly{{p(1, 1), p(-1, 0, 1)}}, [][]api.Poly{{p(1, -1), p(1)}}, []int{0}, []int{0}},
		{[][]api.Poly{{nil}, {x}, {nil}}, nil, []int{1}, []int{0}},
		// The second column is x times the first; the third is not looked at for it.
		{[][]api.Poly{{p(2), p(0, 2), x}, {x, p(0, 0, 1), p(7)}}, [][]api.Poly{{p(0, -1), p(1), nil}}, []int{0, 1}, []int{0, 2}},
	} {
		expectNull(t, c.m)
		vectors, rows, columns, _ := linalg.Null(c.m)
		if !areSame(vectors, c.vectors) || c.rows != nil && !slices.Equal(rows, c.rows) || !slices.Equal(columns, c.columns) {
			t.Errorf("P7.3: Null %s: %s, rows %v, columns %v", name(c.m), name(vectors), rows, columns)
		}
	}
}

func areSame(vs, ws [][]api.Poly) bool {
	return slices.EqualFunc(vs, ws, func(v, w []api.Poly) bool { return slices.EqualFunc(v, w, upoly.Eq) })
}

func TestNullOfZero(t *testing.T) {
	for _, shape := range [][2]int{{1, 1}, {1, 2}, {2, 1}, {7, 7}, {64, 1}, {1, 64}, {64, 40}, {40, 64}} {
		m := zeroMatrix(shape[0], shape[1])
		vectors, rows, columns, e := linalg.Null(m)
		if e != api.OK || len(vectors) != shape[1] || len(rows)+len(columns) > 0 {
			t.Fatalf("P7.3: Null of zeros, %v: %d vectors, %v, %v, error %d", shape, len(vectors), rows, columns, e)
		}
		for j, v := range vectors {
			for k, q := range v {
				if len(v) != shape[1] || k == j && !upoly.Eq(q, p(1)) || k != j && len(q) > 0 {
					t.Errorf("P7.3: Null of zeros, %v: vector %d: %v", shape, j, v)
				}
			}
		}
	}
}

// Of zeros but for one entry, at each place.
func TestNullOfOneEntry(t *testing.T) {
	for i := range 4 {
		for j := range 5 {
			m := zeroMatrix(4, 5)
			m[i][j] = p(0, -3)
			expectNull(t, m)
			_, rows, columns, _ := linalg.Null(m)
			if !slices.Equal(rows, []int{i}) || !slices.Equal(columns, []int{j}) {
				t.Errorf("P7.3: Null of an entry at %d, %d: rows %v, columns %v", i, j, rows, columns)
			}
		}
	}
}

// Matrices of the numbers -1, 0 and 1: all of two rows and three columns.
func TestNullOfSmallOnes(t *testing.T) {
	for code := range 729 {
		m := zeroMatrix(2, 3)
		for k := range 6 {
			if c := code % 3; c > 0 {
				m[k/3][k%3] = p(int64(2*c - 3))
			}
			code /= 3
		}
		expectNull(t, m)
	}
}

// Rows and columns times polynomials, of which vectors must not keep more than
// they need.
func TestNullOfCommonDivisors(t *testing.T) {
	d := rand.New(rand.NewSource(70))
	by := []api.Poly{p(6), p(-1), p(2, 2), p(0, -3), p(1, 0, 1), p(-4, 0, 0, 4)}
	for range 60 {
		rows, columns := 1+d.Intn(4), 2+d.Intn(4)
		m := randomMatrix(d, rows, columns, 3, 6)
		for i := range rows {
			a := by[d.Intn(len(by))]
			for j := range columns {
				m[i][j] = upoly.Mul(m[i][j], a)
			}
		}
		expectNull(t, m)
		j := d.Intn(columns)
		a := by[d.Intn(len(by))]
		for i := range rows {
			m[i][j] = upoly.Mul(m[i][j], a)
		}
		expectNull(t, m)
	}
}

// One row may stand in a matrix many times, in the same memory.
func TestNullOfOneRow(t *testing.T) {
	row := []api.Poly{p(0, 2), nil, p(4), p(6, 6)}
	expectNull(t, [][]api.Poly{row, row, row, row, row})
}

func TestNullTwice(t *testing.T) {
	for _, m := range samples() {
		v, r, c, _ := linalg.Null(m)
		w, s, d, _ := linalg.Null(paddedMatrix(m))
		if !areSame(v, w) || !slices.Equal(r, s) || !slices.Equal(c, d) {
			t.Errorf("P0.8: Null %s: rows %v, then %v", name(m), r, s)
		}
	}
}
