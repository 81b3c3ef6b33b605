package ratfun_test

import (
	"math/rand"
	"slices"
	"testing"

	"ashlar/api"
	"ashlar/limbs"
	"ashlar/ratfun"
	"ashlar/upoly"
)

// expectCommon holds Common against what the oracle reckons one by one.
func expectCommon(t *testing.T, fs ...api.Fun) {
	t.Helper()
	want := small(1)
	for _, f := range fs {
		want = bigLcm(want, bigNorm(toBigFun(f)).den)
	}
	names := ""
	for _, f := range fs {
		names += name(f) + "; "
	}
	d, above := ratfun.Common(fs...)
	if !isPoly(d, want) || len(above) != len(fs) {
		t.Errorf("P5.2: Common of %s: %v and %d, not %v", short(names), toBig(d), len(above), want)
		return
	}
	for i, f := range fs {
		normal := bigNorm(toBigFun(f))
		if !isPoly(above[i], bigMul(normal.num, bigExact(want, normal.den))) {
			t.Errorf("P5.2: Common of %s: %v over %v at %d", short(names), toBig(above[i]), want, i)
		}
	}
}

// expectWritten is expectCommon for an answer that is written out.
func expectWritten(t *testing.T, fs []api.Fun, den []int64, above ...[]int64) {
	t.Helper()
	d, got := ratfun.Common(fs...)
	same := func(p api.Poly, ns []int64) bool { return isPoly(p, small(ns...)) }
	if !isPoly(d, small(den...)) || !slices.EqualFunc(got, above, same) {
		t.Errorf("P5.2: Common of %v: %v, %v, not %v, %v", fs, d, got, den, above)
	}
	expectCommon(t, fs...)
}

func over(num api.Poly, den ...int64) api.Fun { return api.Fun{Num: num, Den: upoly.Of(den...)} }

func TestCommonExample(t *testing.T) {
	one := upoly.Of(1)
	expectWritten(t, []api.Fun{over(one, 0, 2), over(one, 1, 1)}, []int64{0, 2, 2}, []int64{1, 1}, []int64{0, 2})
}

func TestCommonOfNone(t *testing.T) {
	expectWritten(t, nil, []int64{1})
	expectWritten(t, []api.Fun{}, []int64{1})
}

func TestCommonOfOne(t *testing.T) {
	for _, f := range append(few(), zeroFuns()...) {
		normal := bigNorm(toBigFun(f))
		d, above := ratfun.Common(f)
		if !isPoly(d, normal.den) || len(above) != 1 || !isPoly(above[0], normal.num) {
			t.Errorf("P5.2: Common of %s: %v, %v", name(f), d, above)
		}
	}
}

func TestCommonOfNumbersAlone(t *testing.T) {
	one, line := upoly.Of(1), upoly.Of(1, 1)
	expectWritten(t, []api.Fun{over(one, 4), over(one, 6)}, []int64{12}, []int64{3}, []int64{2})
	expectWritten(t, []api.Fun{over(one, 2), over(line, -3), over(one, 1)}, []int64{6}, []int64{3}, []int64{-2, -2}, []int64{6})
	expectWritten(t, []api.Fun{over(upoly.Of(2), 4), over(upoly.Of(2, 2), 6)}, []int64{6}, []int64{3}, []int64{2, 2})
	expectWritten(t, []api.Fun{over(upoly.Of(8), 4), over(upoly.Of(-5), -5)}, []int64{1}, []int64{2}, []int64{1})
}

func TestCommonOfTheSameDen(t *testing.T) {
	one, two := upoly.Of(1), upoly.Of(2)
	same := []api.Fun{over(one, 2, 4), over(upoly.Of(0, 1), 2, 4), over(one, 2, 4)}
	expectWritten(t, same, []int64{2, 4}, []int64{1}, []int64{0, 1}, []int64{1})
	// Over -1 they are the same, and over 2 one of them is shorter.
	expectWritten(t, []api.Fun{over(one, 1, 2), over(one, -1, -2)}, []int64{1, 2}, []int64{1}, []int64{-1})
	expectWritten(t, []api.Fun{over(two, 2, 4), over(one, 2, 4)}, []int64{2, 4}, []int64{2}, []int64{1})
	for _, f := range few() {
		expectCommon(t, slices.Repeat([]api.Fun{f}, 5)...)
		expectCommon(t, forms(ratfun.Norm(f))...)
	}
}

func TestCommonWithZeros(t *testing.T) {
	f, g := over(upoly.Of(3), 0, 2), over(upoly.Of(1, 1), -1, 1)
	for _, z := range zeroFuns() {
		expectWritten(t, []api.Fun{z, z}, []int64{1}, nil, nil)
		expectWritten(t, []api.Fun{z, f}, []int64{0, 2}, nil, []int64{3})
		expectWritten(t, []api.Fun{f, z, g}, []int64{0, -2, 2}, []int64{-3, 3}, nil, []int64{0, 2, 2})
	}
}

// The answers stand in the order of the functions, whatever the degrees are.
func TestCommonInAnyOrder(t *testing.T) {
	one := upoly.Of(1)
	fs := []api.Fun{over(one, 0, 0, 0, 1), over(one, 1, 1), over(one, 2), over(one, 0, 0, 1), over(one, 0, 1)}
	expectWritten(t, fs, []int64{0, 0, 0, 2, 2},
		[]int64{2, 2}, []int64{0, 0, 0, 2}, []int64{0, 0, 0, 1, 1}, []int64{0, 2, 2}, []int64{0, 0, 2, 2})
	slices.Reverse(fs)
	expectCommon(t, fs...)
	expectWritten(t, []api.Fun{over(one, 4), over(one, 0, 6)}, []int64{0, 12}, []int64{0, 3}, []int64{2})
	expectWritten(t, []api.Fun{over(one, 0, 6), over(one, 0, 4)}, []int64{0, 12}, []int64{2}, []int64{3})
	expectWritten(t, []api.Fun{over(one, -1, 0, 1), over(one, 1, 2, 1)}, []int64{-1, -1, 1, 1}, []int64{1, 1}, []int64{-1, 1})
}

func TestCommonOfSeveral(t *testing.T) {
	eachPair(func(f, g api.Fun) { expectCommon(t, f, g) })
	all := few()
	d := rand.New(rand.NewSource(61))
	for range 60 {
		d.Shuffle(len(all), func(i, j int) { all[i], all[j] = all[j], all[i] })
		expectCommon(t, all[:3+d.Intn(4)]...)
	}
}

func TestCommonOfMany(t *testing.T) {
	var fs []api.Fun
	for i := range int64(40) {
		den := upoly.Mul(upoly.Of(i*7%40, 1), upoly.Of(i*3%20, i%4-2))
		fs = append(fs, api.Fun{Num: upoly.Of(i, 1), Den: den}, over(upoly.Of(1), i))
	}
	expectCommon(t, fs...)
	ten := limbs.Of(10)
	wide := api.Fun{Num: upoly.Of(1), Den: api.Poly{limbs.Of(1), ten}}
	for range 6 {
		ten = limbs.Mul(ten, ten)
		fs = append(fs[:8], wide, api.Fun{Num: api.Poly{ten, ten}, Den: api.Poly{ten, limbs.Of(-4)}})
		expectCommon(t, fs...)
	}
}
