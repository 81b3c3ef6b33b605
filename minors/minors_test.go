package minors

import (
	"math/rand"
	"testing"

	"ashlar/api"
	"ashlar/limbs"
	"ashlar/upoly"
)

// random gives a matrix of small polynomials, some of its columns combinations of
// those to their left.
func random(d *rand.Rand, rows, columns int) [][]api.Poly {
	m := make([][]api.Poly, rows)
	for j := range columns {
		by := d.Intn(3)
		for i := range m {
			var p api.Poly
			for range d.Intn(3) {
				p = append(p, limbs.Of(d.Int63n(7)-3))
			}
			if j > 1 && by == 0 {
				p = upoly.Add(upoly.Mul(upoly.Of(1, 2), m[i][0]), upoly.Scale(m[i][j-1], limbs.Of(-3)))
			}
			m[i] = append(m[i], p)
		}
	}
	return m
}

// First is Null's first vector, times a polynomial that is not zero; none, where
// there is none.
func TestFirst(t *testing.T) {
	d := rand.New(rand.NewSource(19))
	found := 0
	for range 2000 {
		m := random(d, 1+d.Intn(5), 1+d.Intn(6))
		vectors, _, _ := Null(m)
		v := First(m)
		if (len(vectors) == 0) != (len(v) == 0) {
			t.Fatalf("First %v: %v, but Null: %v", m, v, vectors)
		}
		if len(v) == 0 {
			continue
		}
		found++
		w, last := vectors[0], -1
		for j, p := range v {
			if upoly.Deg(p) >= 0 {
				last = j
			}
		}
		for j := range v {
			// Each entry is as many times as much as the last one is.
			if last < 0 || upoly.Deg(w[last]) < 0 || !upoly.Eq(upoly.Mul(v[j], w[last]), upoly.Mul(w[j], v[last])) {
				t.Fatalf("First %v: %v, not a multiple of %v", m, v, w)
			}
		}
	}
	if found < 500 {
		t.Errorf("too few: %d", found)
	}
}
