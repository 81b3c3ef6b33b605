package linalg_test

import (
	"math/big"
	"math/rand"
	"slices"

	"ashlar/api"
	"ashlar/limbs"
	"ashlar/upoly"
)

func p(ns ...int64) api.Poly { return upoly.Of(ns...) }

// zeros are the integer 0 in all its forms.
func zeros() []api.Int {
	return []api.Int{
		{}, {Neg: true}, {L: []uint32{}}, {L: []uint32{0}},
		{Neg: true, L: []uint32{0}}, {Neg: true, L: []uint32{0, 0, 0}},
	}
}

// zeroForms are the polynomial zero in many forms.
func zeroForms() []api.Poly {
	out := []api.Poly{nil, {}, zeros()}
	for _, z := range zeros() {
		out = append(out, api.Poly{z})
	}
	return out
}

// padded gives p with zeros at its end, and with highest limbs that are 0 at the
// end of each entry; an entry that is 0 gets a Neg.
func padded(p api.Poly) api.Poly {
	var out api.Poly
	for _, c := range p {
		out = append(out, api.Int{Neg: c.Neg || limbs.Sign(c) == 0, L: append(slices.Clone(c.L), 0, 0)})
	}
	return append(out, zeros()...)
}

func paddedMatrix(m [][]api.Poly) [][]api.Poly {
	var out [][]api.Poly
	for _, row := range m {
		var wide []api.Poly
		for _, q := range row {
			wide = append(wide, padded(q))
		}
		out = append(out, wide)
	}
	return out
}

// zeroMatrix is of zeros in many forms.
func zeroMatrix(rows, columns int) [][]api.Poly {
	forms := zeroForms()
	out := make([][]api.Poly, rows)
	for i := range out {
		for j := range columns {
			out[i] = append(out[i], forms[(i+3*j)%len(forms)])
		}
	}
	return out
}

// sized is a matrix of zeros, but for one entry of that degree and those bits.
func sized(rows, columns, degree, bits int) [][]api.Poly {
	out := zeroMatrix(rows, columns)
	q := make(api.Poly, degree+1)
	q[degree].L = make([]uint32, (bits+31)/32)
	q[degree].L[(bits-1)/32] = 1 << ((bits - 1) % 32)
	out[rows/2][columns/2] = q
	return out
}

// random gives a polynomial of at most n entries of at most so many bits; some
// are zero, and some in a form that is not normal.
func random(d *rand.Rand, n, bits int) api.Poly {
	q := make(api.Poly, d.Intn(n+1))
	for i := range q {
		c := new(big.Int).Rand(d, new(big.Int).Lsh(big.NewInt(1), uint(bits)))
		q[i] = fromBig(c)
		q[i].Neg = d.Intn(2) == 0
	}
	if d.Intn(4) == 0 {
		return padded(q)
	}
	return q
}

func randomMatrix(d *rand.Rand, rows, columns, n, bits int) [][]api.Poly {
	out := make([][]api.Poly, rows)
	for i := range out {
		for range columns {
			out[i] = append(out[i], random(d, n, bits))
		}
	}
	return out
}

// product gives a matrix whose rank is at most the number of b's rows.
func product(a, b [][]api.Poly) [][]api.Poly {
	out := make([][]api.Poly, len(a))
	for i, row := range a {
		for j := range b[0] {
			var sum api.Poly
			for k, q := range row {
				sum = upoly.Add(sum, upoly.Mul(q, b[k][j]))
			}
			out[i] = append(out[i], sum)
		}
	}
	return out
}

// plain are matrices that are written out: of all kinds of ranks and shapes.
func plain() [][][]api.Poly {
	x := p(0, 1)
	wide := fromBig(new(big.Int).Lsh(big.NewInt(-3), 100))
	return [][][]api.Poly{
		{{x}}, {{p(-4)}}, {{x, p(1)}}, {{p(1), p(2)}, {p(2), p(4)}}, {{x, nil}, {nil, x}}, {{nil, x}, {x, nil}},
		{{x, p(1)}, {p(1), x}}, {{nil, p(1, 1), p(2)}, {nil, x, p(3)}}, {{p(6), p(4)}}, {{p(-6), p(4)}}, {{p(0, -6), p(0, 0, 4)}},
		// Columns that hang on those to their left: times x, with a sum, twice the same, of zeros between.
		{{p(1), x, p(0, 0, 1)}, {x, p(0, 0, 1), p(0, 0, 0, 1)}},
		{{p(2), p(3), p(5)}, {x, p(1), p(1, 1)}, {p(7), x, p(7, 1)}},
		{{p(4, 2), nil, p(6, 3), p(1)}, {p(-2), nil, p(-3), x}},
		{{nil, nil, p(3), p(3), x}, {nil, nil, p(1), p(1), p(5)}, {nil, nil, p(0, 2), p(0, 2), p(9)}},
		// A column that hangs on the first alone, though others have a row.
		{{p(1, 1), p(2, 2), p(5), p(-1, 0, 1)}, {x, p(0, 2), p(1), p(0, -1, 1)}, {p(3), p(6), x, p(-3, 3)}},
		// More rows than columns, with rows of zeros ahead, and more columns than rows.
		{{nil}, {nil}, {x}, {p(2)}}, {{nil, nil}, {p(1), x}, {p(2), p(0, 2)}, {p(3), p(1)}, {nil, p(1)}},
		{{p(1), x, p(0, 0, 1), p(0, 0, 0, 1), p(5), nil}}, {{p(0, 2), p(4), p(-6)}, {p(3), p(0, 9), p(3)}},
		// Common divisors with x, of numbers alone, and with leads below 0.
		{{p(-1, 0, 1), p(1, 1)}}, {{p(1, 0, -1), p(1, 1), p(2, 2)}}, {{p(0, 12), p(0, 18), p(0, 30)}}, {{p(0, 0, -10), p(0, 15)}},
		// Great entries beside small ones.
		{{{wide, limbs.Of(1)}, p(1)}, {p(5), {limbs.Of(7), wide}}}, {{{wide}, {wide, wide}}, {{wide, wide}, {wide}}},
	}
}

// samples are matrices of all kinds, for which Null is not refused.
func samples() [][][]api.Poly {
	out := plain()
	for _, m := range plain() {
		out = append(out, paddedMatrix(m))
	}
	for _, z := range zeroForms() {
		out = append(out, [][]api.Poly{{z}}, [][]api.Poly{{z, p(3)}}, [][]api.Poly{{z}, {p(0, -2)}})
	}
	for _, shape := range [][2]int{{1, 2}, {2, 1}, {3, 3}, {5, 2}, {2, 5}, {64, 1}, {1, 64}} {
		out = append(out, zeroMatrix(shape[0], shape[1]))
	}
	d := rand.New(rand.NewSource(7))
	for rows := 1; rows <= 6; rows++ {
		for columns := 1; columns <= 6; columns++ {
			for _, bits := range []int{1, 4, 33} {
				out = append(out, randomMatrix(d, rows, columns, 1+d.Intn(4), bits))
				rank := 1 + d.Intn(min(rows, columns))
				low := product(randomMatrix(d, rows, rank, 3, bits/2+1), randomMatrix(d, rank, columns, 2, bits))
				out = append(out, low)
			}
		}
	}
	return out
}

// long are matrices near the greatest that are not refused.
func long() [][][]api.Poly {
	d := rand.New(rand.NewSource(77))
	out := [][][]api.Poly{
		randomMatrix(d, 64, 3, 8, 20), randomMatrix(d, 3, 64, 8, 20), randomMatrix(d, 20, 21, 3, 3), randomMatrix(d, 21, 20, 3, 3),
		randomMatrix(d, 30, 30, 1, 1), randomMatrix(d, 8, 9, 40, 5), randomMatrix(d, 2, 3, 600, 20), randomMatrix(d, 5, 5, 2, 1000),
	}
	for _, n := range []int{4, 9} {
		out = append(out, product(randomMatrix(d, 14, n, 3, 2), randomMatrix(d, n, 16, 2, 2)))
	}
	return out
}

// matrices that may not be handed in.
func wrong() [][][]api.Poly {
	ragged := zeroMatrix(64, 64)
	ragged[63] = ragged[63][:63]
	return [][][]api.Poly{
		nil, {}, {nil}, {{}}, {nil, {}}, make([][]api.Poly, 64), make([][]api.Poly, 65), make([][]api.Poly, 1<<20),
		{{p(1)}, nil}, {nil, {p(1)}}, {{p(1), p(2)}, {p(1)}}, {{p(1)}, {p(1), nil}}, {{p(1), p(2)}, {p(3), p(4)}, {p(5)}},
		{{p(1), p(2)}, {p(3), p(4), nil}}, ragged, zeroMatrix(65, 1), zeroMatrix(1, 65), zeroMatrix(65, 65), zeroMatrix(64, 65),
		zeroMatrix(65, 64), sized(65, 65, 3, 9), {make([]api.Poly, 1<<20)},
	}
}
