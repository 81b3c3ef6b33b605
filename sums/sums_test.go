package sums

import (
	"math/rand"
	"testing"

	"ashlar/api"
	"ashlar/limbs"
	"ashlar/rat"
)

// number gives one of up to so many words, of either sign.
func number(d *rand.Rand, words int) api.Int {
	out := api.Int{Neg: d.Intn(2) == 0}
	for range d.Intn(words + 1) {
		out.L = append(out.L, d.Uint32()|1)
	}
	return out
}

// Sums are what adding one after the other makes, over a Den above 0, whether the
// Dens are the same or not.
func TestSums(t *testing.T) {
	d := rand.New(rand.NewSource(136))
	for n := range 40 {
		for _, dens := range []int{1, 2, 50} {
			var terms []api.Rat
			want := api.Rat{}
			for range n {
				den := limbs.Of(1 + d.Int63n(int64(dens)))
				terms = append(terms, api.Rat{Num: number(d, 3), Den: den})
				want = rat.Add(want, terms[len(terms)-1])
			}
			if got := Of(terms); rat.Cmp(got, want) != 0 || limbs.Sign(got.Den) <= 0 {
				t.Errorf("the sum of %v: %v, not %v", terms, got, want)
			}
		}
	}
}

func TestSumsOfFew(t *testing.T) {
	half := api.Rat{Num: limbs.Of(1), Den: limbs.Of(2)}
	for _, c := range []struct {
		terms []api.Rat
		want  string
	}{{nil, "0"}, {[]api.Rat{}, "0"}, {[]api.Rat{half}, "1/2"}, {[]api.Rat{half, half}, "1"}, {[]api.Rat{half, rat.Sub(api.Rat{}, half)}, "0"}, {[]api.Rat{half, half, {Num: limbs.Of(-1), Den: limbs.Of(3)}}, "2/3"}} {
		if got := Of(c.terms); rat.Text(got) != c.want || limbs.Sign(got.Den) <= 0 {
			t.Errorf("the sum of %v: %v, not %s", c.terms, got, c.want)
		}
	}
}

// What is handed in is left alone.
func TestTermsAreLeftAlone(t *testing.T) {
	terms := []api.Rat{{Num: limbs.Of(5), Den: limbs.Of(6)}, {Num: limbs.Of(1), Den: limbs.Of(6)}, {Num: limbs.Of(-7), Den: limbs.Of(4)}}
	Of(terms)
	for i, want := range []string{"5/6", "1/6", "-7/4"} {
		if rat.Text(terms[i]) != want {
			t.Errorf("the term %d has become %v", i, terms[i])
		}
	}
}
