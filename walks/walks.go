// Package walks goes over a sequence's values by its relations, one after the
// other. It refuses nothing: unroll does, ahead of it.
package walks

import (
	"iter"

	"ashlar/api"
	"ashlar/seq"
)

// Values goes over the first n values, in normal form.
func Values(s *seq.Seq, n int) iter.Seq2[int, api.Rat] {
	return func(yield func(k int, v api.Rat) bool) {
		for k, v := range s.Window()[:min(n, s.Len())] {
			if !yield(k, v) {
				return
			}
		}
		if n <= s.Len() {
			return
		}
		w := walkOf(s)
		for k := s.Len(); k < n; k++ {
			if !yield(k, w.next()) {
				return
			}
		}
	}
}

// Behind goes over the values behind the window, up to that at last. They are
// not in lowest terms: the Den of each divides that of the next.
func Behind(s *seq.Seq, last int) iter.Seq2[int, api.Rat] {
	return func(yield func(k int, v api.Rat) bool) {
		if last < s.Len() {
			return
		}
		w := walkOf(s)
		for k := s.Len(); k <= last; k++ {
			w.step()
			if !yield(k, w.value()) {
				return
			}
		}
	}
}

// Known are a sequence's values, as far as one has been asked for.
type Known struct {
	of     *seq.Seq
	values []api.Rat
	walk   *walk
}

// Of knows none as yet: to ask for none takes no time.
func Of(s *seq.Seq) *Known { return &Known{of: s} }

// At gives the value at n, in normal form. Its memory is that of what is known.
func (k *Known) At(n int) api.Rat {
	if k.walk == nil {
		k.values, k.walk = k.of.Window(), walkOf(k.of)
	}
	for len(k.values) <= n {
		k.values = append(k.values, k.walk.next())
	}
	return k.values[n]
}
