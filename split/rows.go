package split

import (
	"ashlar/api"
	"ashlar/limbs"
)

// rows are those of a matrix, behind steps, and the product of the steps'
// numbers.
type rows struct {
	list   [][]api.Int
	number api.Int
}

func rowsOf(list ...[]api.Int) rows { return rows{list: list, number: limbs.Of(1)} }

// units are the rows of the matrix with ones on the diagonal.
func units(r int) rows {
	x := rowsOf()
	for i := range r {
		x.list = append(x.list, unit(r, i))
	}
	return x
}

// unit is the row i of that matrix.
func unit(r, i int) []api.Int {
	row := make([]api.Int, r)
	row[i] = limbs.Of(1)
	return row
}

// take multiplies by a step.
func (x *rows) take(t step) {
	for _, row := range x.list {
		t.apply(row)
	}
	x.number = limbs.Mul(x.number, t.number)
}

// apply multiplies a row by the step's matrix.
func (t step) apply(row []api.Int) {
	last := row[len(row)-1]
	for j := len(row) - 1; j > 0; j-- {
		row[j] = plus(plus(api.Int{}, t.number, row[j-1]), t.last[j], last)
	}
	row[0] = plus(api.Int{}, t.last[0], last)
}

// times gives x y.
func times(x, y rows) rows {
	out := rows{number: limbs.Mul(x.number, y.number)}
	for _, row := range x.list {
		out.list = append(out.list, combined(row, y.list))
	}
	return out
}

// combined gives the sum of the rows, each times its factor.
func combined(factors []api.Int, list [][]api.Int) []api.Int {
	out := make([]api.Int, len(list[0]))
	for i, row := range list {
		for j, v := range row {
			out[j] = plus(out[j], factors[i], v)
		}
	}
	return out
}

// plus gives v + a b: v itself, where that is the sum.
func plus(v, a, b api.Int) api.Int {
	switch {
	case limbs.Sign(a) == 0 || limbs.Sign(b) == 0:
		return v
	case limbs.Sign(v) == 0:
		return limbs.Mul(a, b)
	}
	return limbs.Add(v, limbs.Mul(a, b))
}
