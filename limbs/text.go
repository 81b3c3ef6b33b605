package limbs

import (
	"strings"

	"ashlar/api"
)

// Digits are taken in chunks, the greatest that fit into a limb.
const (
	chunkDigits = 9
	chunk       = 1_000_000_000
)

// Text writes it in decimal digits.
func Text(a api.Int) string {
	x := trim(a.L)
	if len(x) == 0 {
		return "0"
	}
	powers := chunkPowers(len(x))
	out := make([]byte, chunkDigits<<len(powers))
	spell(out, clone(x), powers)
	digits := strings.TrimLeft(string(out), "0")
	if a.Neg {
		return "-" + digits
	}
	return digits
}

// chunkPowers gives the powers of chunk to 1, 2, 4 and so on, until the square
// of the last is above all numbers of n limbs.
func chunkPowers(n int) [][]uint32 {
	p := []uint32{chunk}
	powers := [][]uint32{p}
	for 2*len(p)-1 <= n {
		p = trim(product(p, p))
		powers = append(powers, p)
	}
	return powers
}

// spell fills out with the digits of x, which it uses up. The last of powers is
// ten to half of out's length, the one ahead to half of that, and so on.
func spell(out []byte, x []uint32, powers [][]uint32) {
	last := len(powers) - 1
	if len(x) < splitFrom || last < 0 {
		spellChunks(out, x)
		return
	}
	half := len(out) / 2
	q, r := quotient(x, powers[last])
	spell(out[:half], trim(q), powers[:last])
	spell(out[half:], trim(r), powers[:last])
}

func spellChunks(out []byte, x []uint32) {
	for end := len(out); end > 0; end -= chunkDigits {
		d := divideByLimb(x, chunk)
		x = trim(x)
		for i := 1; i <= chunkDigits; i++ {
			out[end-i] = byte('0' + d%10)
			d /= 10
		}
	}
}

// Read reads it.
func Read(s string) (api.Int, api.Errno) {
	digits, neg := strings.CutPrefix(s, "-")
	if len(s) > api.MaxText || !isNumeral(digits) || s == "-0" {
		return api.Int{}, api.ErrSyntax
	}
	return number(neg, value(digits)), api.OK
}

func isNumeral(s string) bool {
	for i := range len(s) {
		if s[i] < '0' || s[i] > '9' {
			return false
		}
	}
	return s == "0" || s != "" && s[0] != '0'
}

func value(digits string) []uint32 {
	x := make([]uint32, 0, len(digits)/chunkDigits+1)
	for digits != "" {
		// The first chunk is the short one: those behind it are all full.
		n := (len(digits)-1)%chunkDigits + 1
		var d uint32
		for i := range n {
			d = 10*d + uint32(digits[i]-'0')
		}
		x = appendChunk(x, d)
		digits = digits[n:]
	}
	return x
}

// appendChunk turns x into x times chunk, and d.
func appendChunk(x []uint32, d uint32) []uint32 {
	carry := uint64(d)
	for i, w := range x {
		t := uint64(w)*chunk + carry
		x[i], carry = uint32(t), t>>32
	}
	if carry > 0 {
		x = append(x, uint32(carry))
	}
	return x
}
