package linalg_test

import (
	"math/rand"
	"testing"

	"ashlar/api"
	"ashlar/linalg"
)

func expectTimes(t *testing.T, m [][]api.Poly, v []api.Poly) {
	t.Helper()
	want := bigTimes(toBigMatrix(m), toBigs(v))
	got, e := linalg.Times(m, v)
	if e != api.OK || len(got) != len(want) {
		t.Fatalf("P7.2: Times %s: %d entries, error %d", name(m), len(got), e)
	}
	for i, q := range got {
		expectPoly(t, "P7.2: Times "+name(m), q, want[i])
	}
}

func TestTimes(t *testing.T) {
	d := rand.New(rand.NewSource(72))
	for _, m := range samples() {
		expectTimes(t, m, randomMatrix(d, 1, len(m[0]), 4, 40)[0])
		expectTimes(t, m, zeroMatrix(1, len(m[0]))[0])
	}
	got, e := linalg.Times([][]api.Poly{{p(0, 1), p(1)}, {p(2), nil}}, []api.Poly{p(0, 1), p(-1, 3)})
	if e != api.OK || len(got) != 2 {
		t.Fatalf("P7.2: Times: %v, error %d", got, e)
	}
	expectPoly(t, "P7.2: Times", got[0], toBig(p(-1, 3, 1)))
	expectPoly(t, "P7.2: Times", got[1], toBig(p(0, 2)))
}

// Times has no estimate.
func TestTimesOfGreatOnes(t *testing.T) {
	d := rand.New(rand.NewSource(73))
	m := randomMatrix(d, 64, 64, 2, 5)
	expectTimes(t, m, randomMatrix(d, 1, 64, 2, 5)[0])
	expectTimes(t, zeroMatrix(64, 64), m[3])
	expectTimes(t, sized(64, 64, 300, 2000), m[0])
	expectTimes(t, sized(2, 3, 10, 1<<18), []api.Poly{p(1), p(0, 1), p(2)})
	expectTimes(t, zeroMatrix(64, 1), []api.Poly{p(7)})
	expectTimes(t, zeroMatrix(1, 64), m[1])
}

func TestTimesOfOtherLengths(t *testing.T) {
	for _, m := range samples() {
		for _, n := range []int{0, len(m[0]) - 1, len(m[0]) + 1, 64, 65, 1000} {
			if n == len(m[0]) {
				continue
			}
			if v, e := linalg.Times(m, make([]api.Poly, n)); e != api.ErrArg || len(v) > 0 {
				t.Errorf("P7.1: Times %s with %d entries: %d entries, error %d", name(m), n, len(v), e)
			}
		}
	}
	for _, m := range [][][]api.Poly{zeroMatrix(3, 2), zeroMatrix(2, 3)} {
		if v, e := linalg.Times(m, make([]api.Poly, len(m))); e != api.ErrArg || len(v) > 0 {
			t.Errorf("P7.1: Times with an entry a row: %d entries, error %d", len(v), e)
		}
	}
}
