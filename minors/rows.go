package minors

import (
	"cmp"
	"container/heap"

	"ashlar/api"
	"ashlar/limbs"
)

// row is what an elimination has made of a row of the matrix: packed
// polynomials. In the columns that are done its entries say nothing.
type row struct {
	index   int // of the row of the matrix
	entries []api.Int
	bits    int // the greatest of an entry
}

// reduce lets the row by, taken for column j, make the entry in that column 0.
// What comes of it is divided by what the row that was taken ahead has in its
// own column; that goes, for all these are minors of the matrix (Bareiss).
func (r *row) reduce(by *row, j int, ahead api.Int) {
	r.bits = 0
	for k := j + 1; k < len(r.entries); k++ {
		cross := limbs.Sub(limbs.Mul(by.entries[j], r.entries[k]), limbs.Mul(r.entries[j], by.entries[k]))
		r.entries[k] = exact(cross, ahead)
		r.bits = max(r.bits, limbs.Bits(r.entries[k]))
	}
}

// exact gives a over b, which goes.
func exact(a, b api.Int) api.Int {
	q, _, _ := limbs.Quo(a, b)
	return q
}

// rows are the rows that are not taken yet, a heap with the least degrees first:
// of packed polynomials the fewest bits are the least degree, and among like
// ones the shortest entries.
type rows []*row

func (h rows) Len() int { return len(h) }

func (h rows) Less(i, j int) bool {
	return cmp.Or(cmp.Compare(h[i].bits, h[j].bits), cmp.Compare(h[i].index, h[j].index)) < 0
}

func (h rows) Swap(i, j int) { h[i], h[j] = h[j], h[i] }

func (h *rows) Push(x any) { *h = append(*h, x.(*row)) }

func (h *rows) Pop() any {
	last := len(*h) - 1
	r := (*h)[last]
	*h = (*h)[:last]
	return r
}

// take takes the first row off the heap that has something in column j; nil, if
// none has.
func (h *rows) take(j int) *row {
	var passed []*row
	var found *row
	for found == nil && h.Len() > 0 {
		r := heap.Pop(h).(*row)
		if limbs.Sign(r.entries[j]) != 0 {
			found = r
		} else {
			passed = append(passed, r)
		}
	}
	for _, r := range passed {
		heap.Push(h, r)
	}
	return found
}
