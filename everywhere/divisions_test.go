package everywhere

import (
	"testing"

	"ashlar/api"
	"ashlar/euclid"
	"ashlar/ore"
	"ashlar/upoly"
)

// factored are operators of which some divide others; none is too great.
func factored() []api.Op {
	n := polys()
	return []api.Op{
		nil, {n[3]}, {n[4]}, {n[8], n[3]}, {upoly.Of(-1), upoly.Of(1), n[2]}, {upoly.Of(-1), nil, upoly.Of(1)}, {n[7], n[9]}, {n[9], n[0], n[7], n[1]},
	}
}

func TestEuclid(t *testing.T) {
	divide := func(algebra int, q api.Int, a, b api.Op) (api.Poly, api.Op, api.Op, api.Errno) {
		r, _ := ore.New(algebra, q)
		return euclid.Divide(r, a, b)
	}
	args := append(withRules(pairs(someOps(), someOps())), withRules(pairs(factored(), factored()))...)
	for _, c := range []call{
		{"euclid.Divide", divide, args},
		{"euclid.Divides", ruled(euclid.Divides), args},
		{"euclid.Common", ruled(euclid.Common), args},
		{"euclid.Multiple", ruled(euclid.Multiple), args},
	} {
		hold(t, c)
	}
}
