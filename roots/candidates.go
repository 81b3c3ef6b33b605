package roots

import (
	"container/heap"

	"ashlar/api"
	"ashlar/limbs"
	"ashlar/upoly"
)

// candidates are numbers that may be roots, a heap with the least first.
type candidates []api.Int

func (c candidates) Len() int { return len(c) }

func (c candidates) Less(i, j int) bool { return limbs.Cmp(c[i], c[j]) < 0 }

func (c candidates) Swap(i, j int) { c[i], c[j] = c[j], c[i] }

func (c *candidates) Push(x any) { *c = append(*c, x.(api.Int)) }

func (c *candidates) Pop() any {
	last := len(*c) - 1
	x := (*c)[last]
	*c = (*c)[:last]
	return x
}

func (c *candidates) takeLeast() api.Int { return heap.Pop(c).(api.Int) }

// candidatesOf gives numbers, no two the same, among which are all integer roots
// of p: each of them is, modulo a prime, one of the few roots that there are, and
// a root that is single there comes from one integer at most.
func candidatesOf(p api.Poly) *candidates {
	m := firstPrime()
	found, single := m.roots(p)
	if !single {
		p = withoutRepeats(p)
	}
	for !single {
		m = m.next()
		found, single = m.roots(p)
	}
	out := &candidates{}
	if len(found) > 0 {
		for _, x := range lift(p, m, found) {
			heap.Push(out, x)
		}
	}
	return out
}

// withoutRepeats gives a polynomial with p's roots, each of them single.
func withoutRepeats(p api.Poly) api.Poly {
	q, _ := upoly.Exact(p, upoly.Gcd(p, upoly.Deriv(p)))
	return q
}
