package closure

import (
	"ashlar/api"
	"ashlar/limbs"
	"ashlar/ore"
	"ashlar/upoly"
)

// widened gives the entries' values at (x - j) over k, all times one number.
func widened(a api.Op, k, j int) api.Op {
	most := ore.Degree(a)
	return ore.Each(a, func(p api.Poly) api.Poly {
		out, _ := upoly.Stretch(p, int64(k), int64(j))
		for range most - upoly.Deg(p) {
			out = upoly.Scale(out, limbs.Of(int64(k)))
		}
		return out
	})
}

// narrowed gives the entries' values at k x + j.
func narrowed(a api.Op, k, j int) api.Op {
	return ore.Each(a, func(p api.Poly) api.Poly {
		out, power := upoly.Shift(p, limbs.Of(int64(j))), limbs.Of(1)
		for i, c := range out {
			out[i] = limbs.Mul(c, power)
			power = limbs.Mul(power, limbs.Of(int64(k)))
		}
		return out
	})
}

// apart gives the operator whose power k i has the entry that the power i has in a.
func apart(a api.Op, k int) api.Op {
	out := make(api.Op, k*(len(a)-1)+1)
	for i, p := range a {
		out[k*i] = p
	}
	return out
}
