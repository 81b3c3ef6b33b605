package everywhere

import (
	"slices"
	"testing"

	"ashlar/api"
	"ashlar/linalg"
)

// matrices are of all kinds of shapes, some of which may not be handed in.
func matrices() [][][]api.Poly {
	out := [][][]api.Poly{
		nil, {}, {nil}, {{}}, {nil, {}}, make([][]api.Poly, 65), {make([]api.Poly, 65)}, make([][]api.Poly, 64),
		{{nil}}, {make([]api.Poly, 64)}, slices.Repeat([][]api.Poly{make([]api.Poly, 64)}, 64),
	}
	some := polys()
	for rows := 1; rows <= 4; rows++ {
		for columns := 1; columns <= 4; columns++ {
			for k := range 6 {
				m := make([][]api.Poly, rows)
				for i := range m {
					for j := range columns {
						m[i] = append(m[i], some[(k*k+3*i*(k+1)+5*j)%len(some)])
					}
				}
				out = append(out, m)
			}
		}
	}
	ragged := slices.Clone(out[len(out)-1])
	ragged[2] = ragged[2][:3]
	return append(out, ragged)
}

// products are matrices with vectors, some of another length.
func products() [][]any {
	var out [][]any
	some := polys()
	for k, m := range matrices() {
		columns := 0
		if len(m) > 0 {
			columns = len(m[0])
		}
		for _, n := range []int{0, columns, columns + 1} {
			var v []api.Poly
			for i := range n {
				v = append(v, some[(k+3*i)%len(some)])
			}
			out = append(out, []any{m, v})
		}
	}
	return out
}

func TestLinalg(t *testing.T) {
	one := ones(matrices())
	for _, c := range []call{
		{"linalg.Cost", linalg.Cost, one},
		{"linalg.Det", linalg.Det, one},
		{"linalg.Null", linalg.Null, one},
		{"linalg.Times", linalg.Times, products()},
	} {
		hold(t, c)
	}
}
