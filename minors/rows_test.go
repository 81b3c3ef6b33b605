package minors

import (
	"container/heap"
	"slices"
	"testing"

	"ashlar/api"
	"ashlar/upoly"
)

// takenRows gives the rows in the order in which they are taken for the columns
// from the left.
func takenRows(m [][]api.Poly) []int {
	e := newElimination(m)
	for j := range m[0] {
		e.take(j)
	}
	return e.indexes()
}

func TestLeastDegreesFirst(t *testing.T) {
	one, x, square := upoly.Of(1), upoly.Of(-9, 1), upoly.Of(0, 0, -1)
	long := api.Poly{{L: []uint32{1, 2, 3, 4}}}
	for _, c := range []struct {
		m    [][]api.Poly
		want []int
	}{
		{[][]api.Poly{{square}, {x}, {one}}, []int{2}},
		{[][]api.Poly{{square}, {x}, {nil}}, []int{1}},
		{[][]api.Poly{{one, square}, {one, x}}, []int{1, 0}},
		{[][]api.Poly{{nil, one}, {one, square}, {one, x}}, []int{2, 0}},
		{[][]api.Poly{{one, nil, nil}, {nil, one, nil}, {nil, nil, one}}, []int{0, 1, 2}},
		{[][]api.Poly{{x}, {long}, {square}}, []int{1}},
		// The second row has the greatest degree, until the first is taken.
		{[][]api.Poly{{one, upoly.Of(0, 0, 1)}, {upoly.Of(0, 0, 0, 1), upoly.Of(1, 0, 0, 0, 0, 1)}, {nil, upoly.Of(0, 0, 0, 1)}}, []int{0, 1}},
	} {
		if got := takenRows(c.m); !slices.Equal(got, c.want) {
			t.Errorf("the rows of %v: %v, not %v", c.m, got, c.want)
		}
	}
}

func TestRowsAreAHeap(t *testing.T) {
	h := &rows{}
	for i, bits := range []int{5, 3, 9, 3, 0, 7, 3, 3, 3, 0} {
		heap.Push(h, &row{index: i, bits: bits, entries: []api.Int{{L: []uint32{uint32(i % 5)}}}})
	}
	var got []int
	for r := h.take(0); r != nil; r = h.take(0) {
		got = append(got, r.index)
	}
	if !slices.Equal(got, []int{4, 9, 1, 3, 6, 7, 8, 2}) || h.Len() != 2 {
		t.Errorf("taken: %v, left: %d", got, h.Len())
	}
}

// A determinant has room, and one bit more, whatever its sign is.
func TestMinorWidth(t *testing.T) {
	for _, c := range []struct {
		m    [][]api.Poly
		want int
	}{
		{[][]api.Poly{{nil}}, 1},
		{[][]api.Poly{{upoly.Of(1<<31 - 1)}}, 1},
		{[][]api.Poly{{upoly.Of(-1 << 31)}}, 2},
		{[][]api.Poly{{upoly.Of(1<<30, -1<<30)}}, 2},
		{[][]api.Poly{{upoly.Of(1<<15 - 1), nil}, {nil, upoly.Of(1<<16 - 1)}}, 1},
		{[][]api.Poly{{upoly.Of(1<<16 - 1), nil}, {nil, upoly.Of(1<<16 - 1)}}, 2},
		// A minor has one row here: the greatest.
		{[][]api.Poly{{upoly.Of(1 << 40)}, {upoly.Of(1 << 40)}, {upoly.Of(1 << 40)}}, 2},
	} {
		if got := minorWidth(c.m); got != c.want {
			t.Errorf("minorWidth %v: %d, not %d", c.m, got, c.want)
		}
	}
}
