package upoly_test

import (
	"slices"
	"testing"

	"ashlar/api"
	"ashlar/limbs"
	"ashlar/upoly"
)

type term struct {
	power int
	text  string
}

func collect(p api.Poly) []term {
	var out []term
	for i, c := range upoly.Terms(p) {
		out = append(out, term{i, limbs.Text(c)})
	}
	return out
}

func TestTerms(t *testing.T) {
	want := []term{{1, "5"}, {3, "-7"}, {4, "18446744073709551616"}}
	p := api.Poly{{}, limbs.Of(5), {}, limbs.Of(-7), parse("18446744073709551616")}
	for _, q := range forms(p) {
		if got := collect(q); !slices.Equal(got, want) {
			t.Errorf("P3.4: Terms %v: %v", q, got)
		}
	}
	for _, q := range samples() {
		var want []term
		for i, c := range toBig(q) {
			if c.Sign() != 0 {
				want = append(want, term{i, c.String()})
			}
		}
		if got := collect(q); !slices.Equal(got, want) {
			t.Errorf("P3.4: Terms %v: %v", q, got)
		}
	}
}

func TestTermsAreInNormalForm(t *testing.T) {
	for _, p := range samples() {
		for i, c := range upoly.Terms(p) {
			if !isNormal(c) {
				t.Errorf("P3.4: Terms %v: %v at %d", p, c, i)
			}
		}
	}
}

func TestTermsOfZero(t *testing.T) {
	for _, z := range zeroForms() {
		if upoly.Terms(z) == nil {
			t.Error("P0.7: Terms of zero is nil")
		}
		if got := collect(z); len(got) > 0 {
			t.Errorf("P3.4: Terms of zero: %v", got)
		}
	}
}

func TestTermsLeftEarlyAndGoneOverAgain(t *testing.T) {
	terms := upoly.Terms(upoly.Of(1, 0, 2, 3))
	for range 2 {
		var powers []int
		for i := range terms {
			powers = append(powers, i)
			if i == 2 {
				break
			}
		}
		if !slices.Equal(powers, []int{0, 2}) {
			t.Errorf("P0.7: Terms left early: %v", powers)
		}
	}
	sum := 0
	for i := range terms {
		sum += i
	}
	if sum != 5 {
		t.Errorf("P0.7: Terms gone over again: %d", sum)
	}
}

func TestTermsNested(t *testing.T) {
	terms := upoly.Terms(upoly.Of(0, 2, 3))
	var got []int
	for i := range terms {
		for j := range terms {
			got = append(got, 10*i+j)
		}
	}
	if !slices.Equal(got, []int{11, 12, 21, 22}) {
		t.Errorf("P0.7: Terms nested: %v", got)
	}
}

// What is written into p behind the call, or into a term, is not seen.
func TestTermsAreKeptApart(t *testing.T) {
	p := upoly.Of(4, 5)
	terms := upoly.Terms(p)
	p[0].L[0], p[1] = 9, limbs.Of(9)
	for range 2 {
		var got []string
		for _, c := range terms {
			got = append(got, limbs.Text(c))
			c.L[0] = 77
		}
		if !slices.Equal(got, []string{"4", "5"}) {
			t.Errorf("P3.4: Terms: %v", got)
		}
	}
	if limbs.Text(p[0]) != "9" || limbs.Text(p[1]) != "9" {
		t.Errorf("P3.4: Terms changes what is handed in: %v", p)
	}
}
