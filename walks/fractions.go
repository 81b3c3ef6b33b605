package walks

import (
	"iter"

	"ashlar/api"
	"ashlar/limbs"
)

// fractions are rationals over one Den, which is above 0.
type fractions struct {
	nums []api.Int
	den  api.Int
}

// fractionsOf brings values in normal form over their least common Den.
func fractionsOf(values []api.Rat) fractions {
	f := fractions{den: limbs.Of(1)}
	for _, v := range values {
		f.den = multiple(f.den, v.Den)
	}
	for _, v := range values {
		f.nums = append(f.nums, limbs.Mul(v.Num, over(f.den, v.Den)))
	}
	return f
}

// fractionOf gives one alone, in memory of its own.
func fractionOf(v api.Rat) fractions {
	return fractions{nums: []api.Int{copied(v.Num)}, den: copied(v.Den)}
}

// all goes over them.
func (f *fractions) all() iter.Seq2[int, api.Rat] {
	return func(yield func(i int, v api.Rat) bool) {
		for i, num := range f.nums {
			if !yield(i, api.Rat{Num: num, Den: f.den}) {
				return
			}
		}
	}
}

// multiply brings them over a Den that is greater by a factor.
func (f *fractions) multiply(by api.Int) {
	if isOne(by) {
		return
	}
	f.den = limbs.Mul(f.den, by)
	for i, num := range f.nums {
		f.nums[i] = limbs.Mul(num, by)
	}
}

// lower brings them over their least common Den. Each prime that the Den and all
// the numbers share must divide doubt.
func (f *fractions) lower(doubt api.Int) {
	for {
		g := f.shared(doubt)
		if isOne(g) {
			return
		}
		f.den = over(f.den, g)
		for i, num := range f.nums {
			f.nums[i] = over(num, g)
		}
		// What is shared still divides a power of g: with its square, few rounds
		// are enough for great powers.
		doubt = limbs.Mul(g, g)
	}
}

// shared gives the greatest common divisor of a number, the Den and all numbers.
func (f *fractions) shared(g api.Int) api.Int {
	g = limbs.Gcd(g, f.den)
	for i := 0; i < len(f.nums) && !isOne(g); i++ {
		g = limbs.Gcd(g, f.nums[i])
	}
	return g
}

// multiple gives the least common multiple of numbers above 0.
func multiple(a, b api.Int) api.Int { return limbs.Mul(a, over(b, limbs.Gcd(a, b))) }

// over gives a over b, which divides it.
func over(a, b api.Int) api.Int {
	q, _, _ := limbs.Quo(a, b)
	return q
}

// shorter gives the number with fewer bits.
func shorter(a, b api.Int) api.Int {
	if limbs.Bits(a) < limbs.Bits(b) {
		return a
	}
	return b
}

func isOne(a api.Int) bool { return limbs.Cmp(a, limbs.Of(1)) == 0 }

func copied(a api.Int) api.Int { return limbs.Add(a, api.Int{}) }
