package ratfun

import (
	"container/heap"
	"slices"

	"ashlar/api"
	"ashlar/upoly"
)

// Common gives a common denominator, and what is above it.
func Common(fs ...api.Fun) (api.Poly, []api.Poly) {
	normal := make([]api.Fun, len(fs))
	for i, f := range fs {
		normal[i] = Norm(f)
	}
	d := leastMultiple(normal)
	above := make([]api.Poly, len(fs))
	for i, f := range normal {
		lack, _ := upoly.Exact(d, f.Den)
		above[i] = upoly.Mul(f.Num, lack)
	}
	return d, above
}

// leastMultiple gives the least common multiple of the Dens; all are in normal
// form, so that no Lead is below 0.
func leastMultiple(fs []api.Fun) api.Poly {
	d := upoly.Of(1)
	for rest := queueOf(fs); rest.Len() > 0; {
		lack, _ := cofactors(d, rest.takeLeast().Den)
		d = upoly.Mul(d, lack)
	}
	return d
}

// queue holds functions in normal form, a heap with the least degree of a Den
// first: so the common multiple stays short for as long as can be.
type queue []api.Fun

func (q queue) Len() int { return len(q) }

func (q queue) Less(i, j int) bool { return upoly.Deg(q[i].Den) < upoly.Deg(q[j].Den) }

func (q queue) Swap(i, j int) { q[i], q[j] = q[j], q[i] }

func (q *queue) Push(x any) { *q = append(*q, x.(api.Fun)) }

func (q *queue) Pop() any {
	last := len(*q) - 1
	f := (*q)[last]
	*q = (*q)[:last]
	return f
}

func (q *queue) takeLeast() api.Fun { return heap.Pop(q).(api.Fun) }

func queueOf(fs []api.Fun) *queue {
	q := queue(slices.Clone(fs))
	heap.Init(&q)
	return &q
}
