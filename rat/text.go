package rat

import (
	"strings"

	"ashlar/api"
	"ashlar/limbs"
)

// Text writes it.
func Text(a api.Rat) string {
	a = Norm(a)
	num := limbs.Text(a.Num)
	// Above 0, the numbers of one bit are 1 alone.
	if limbs.Bits(a.Den) == 1 {
		return num
	}
	return num + "/" + limbs.Text(a.Den)
}

// Read reads it.
func Read(s string) (api.Rat, api.Errno) {
	if len(s) > api.MaxText {
		return zero(), api.ErrSyntax
	}
	a, ok := parse(s)
	// A number has one text: another that says the same is none.
	if !ok || Text(a) != s {
		return zero(), api.ErrSyntax
	}
	return a, api.OK
}

// parse also takes numbers that are not in lowest terms, and a Den of 1 or
// below 0; a Den of 0 it does not take.
func parse(s string) (api.Rat, bool) {
	above, below, broken := strings.Cut(s, "/")
	if !broken {
		below = "1"
	}
	num, numErr := limbs.Read(above)
	den, denErr := limbs.Read(below)
	if numErr != api.OK || denErr != api.OK {
		return api.Rat{}, false
	}
	a, e := Over(num, den)
	return a, e == api.OK
}
