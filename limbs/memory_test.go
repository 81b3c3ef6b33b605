package limbs_test

import (
	"slices"
	"testing"

	"ashlar/api"
	"ashlar/limbs"
)

// call is a call that answers numbers, of one or two.
type call struct {
	name string
	ask  func(a, b api.Int) []api.Int
}

func calls() []call {
	return []call{
		{"Of", func(a, b api.Int) []api.Int { return []api.Int{limbs.Of(1 << 40)} }},
		{"Neg", func(a, b api.Int) []api.Int { return []api.Int{limbs.Neg(a)} }},
		{"Add", func(a, b api.Int) []api.Int { return []api.Int{limbs.Add(a, b)} }},
		{"Sub", func(a, b api.Int) []api.Int { return []api.Int{limbs.Sub(a, b)} }},
		{"Mul", func(a, b api.Int) []api.Int { return []api.Int{limbs.Mul(a, b)} }},
		{"Quo", func(a, b api.Int) []api.Int {
			q, r, _ := limbs.Quo(a, b)
			return []api.Int{q, r}
		}},
		{"Gcd", func(a, b api.Int) []api.Int { return []api.Int{limbs.Gcd(a, b)} }},
		{"Power", func(a, b api.Int) []api.Int {
			p, _ := limbs.Power(a, 1)
			q, _ := limbs.Power(a, 3)
			return []api.Int{p, q}
		}},
		{"Read", func(a, b api.Int) []api.Int {
			n, _ := limbs.Read("123456789012345678901234567890")
			return []api.Int{n}
		}},
		{"those that answer none", func(a, b api.Int) []api.Int {
			limbs.Small(a)
			limbs.Sign(a)
			limbs.Cmp(a, b)
			limbs.Bits(a)
			limbs.Mod(a, 7)
			limbs.Text(a)
			return nil
		}},
	}
}

const mark = 0xdeadbeef

// roomy gives the same number with spare room that is marked.
func roomy(a api.Int) api.Int {
	l := append(slices.Clone(a.L), mark, mark, mark)
	return api.Int{Neg: a.Neg, L: l[:len(a.L)]}
}

// whole gives a list with its spare room.
func whole(a api.Int) []uint32 { return a.L[:cap(a.L)] }

func scribble(as ...api.Int) {
	for _, a := range as {
		for i := range whole(a) {
			whole(a)[i] = mark - 1
		}
	}
}

func same(a, b api.Int) bool { return a.Neg == b.Neg && slices.Equal(a.L, b.L) }

func TestArgumentsStay(t *testing.T) {
	eachPair(func(a, b api.Int) {
		x, y := roomy(a), roomy(b)
		before, after := slices.Clone(whole(x)), slices.Clone(whole(y))
		for _, c := range calls() {
			c.ask(x, y)
			if !slices.Equal(whole(x), before) || !slices.Equal(whole(y), after) {
				t.Fatalf("P1.4: %s changed an argument", c.name)
			}
		}
	})
}

func TestAnswersShareNothing(t *testing.T) {
	eachPair(func(a, b api.Int) {
		for _, c := range calls() {
			want := c.ask(a, b)
			x, y := roomy(a), roomy(b)
			first, second := c.ask(x, y), c.ask(x, y)
			scribble(x, y)
			scribble(first...)
			for i := range second {
				if !same(second[i], want[i]) {
					t.Fatalf("P1.4: %s shares memory", c.name)
				}
				// Writing into one list of an answer leaves the others.
				scribble(second[i])
			}
		}
	})
}

func TestSameNumberTwice(t *testing.T) {
	for _, a := range samples() {
		for _, c := range calls() {
			want := c.ask(a, api.Int{Neg: a.Neg, L: slices.Clone(a.L)})
			x := roomy(a)
			got := c.ask(x, x)
			scribble(x)
			for i := range got {
				if !same(got[i], want[i]) {
					t.Fatalf("P1.4: %s of one number twice", c.name)
				}
			}
		}
	}
}
