package limbs_test

import (
	"math/big"
	"strings"
	"testing"

	"ashlar/api"
	"ashlar/limbs"
)

func thereAndBack(t *testing.T, a api.Int) {
	t.Helper()
	x := toBig(a)
	s := limbs.Text(a)
	if s != x.String() {
		t.Errorf("P1.3: Text: %s, not %s", cut(s), cut(x.String()))
	}
	b, e := limbs.Read(s)
	expect(t, "P1.3: Read", b, x)
	if e != api.OK {
		t.Errorf("P1.3: Read(%s): error %d", cut(s), e)
	}
}

func TestTextAndRead(t *testing.T) {
	for _, a := range samples() {
		thereAndBack(t, a)
	}
	d := dice(19)
	for range 60 {
		thereAndBack(t, d.number(1+d.below(700)))
	}
}

// Around powers of ten, chunks of digits are full of zeros or of nines.
func TestTextAroundPowersOfTen(t *testing.T) {
	p := big.NewInt(1)
	for k := range 1500 {
		if k < 60 || k%9 < 2 {
			for near := int64(-1); near <= 1; near++ {
				thereAndBack(t, fromBig(new(big.Int).Add(p, big.NewInt(near))))
			}
		}
		p.Mul(p, big.NewInt(10))
	}
}

func TestReadAtMaxText(t *testing.T) {
	for _, s := range []string{
		strings.Repeat("9", api.MaxText),
		"-" + strings.Repeat("9", api.MaxText-1),
		"1" + strings.Repeat("0", api.MaxText-1),
	} {
		a, e := limbs.Read(s)
		want, _ := new(big.Int).SetString(s, 10)
		expect(t, "P1.3: Read", a, want)
		if e != api.OK || limbs.Text(a) != s {
			t.Errorf("P1.3: Read of %d bytes: error %d", len(s), e)
		}
	}
	for _, s := range []string{
		strings.Repeat("9", api.MaxText+1),
		"-" + strings.Repeat("9", api.MaxText),
		strings.Repeat("7", 10*api.MaxText),
	} {
		if a, e := limbs.Read(s); e != api.ErrSyntax || len(a.L) > 0 || a.Neg {
			t.Errorf("P1.3: Read of %d bytes: error %d", len(s), e)
		}
	}
}

// Text knows no limit, though Read does.
func TestTextAboveMaxText(t *testing.T) {
	d := dice(23)
	for _, n := range []int{6900, 9000} {
		a := d.number(n)
		a.L[n-1] |= 1
		s := limbs.Text(a)
		if len(s) <= api.MaxText || s != toBig(a).String() {
			t.Errorf("P1.3: Text of %d limbs: %d bytes", n, len(s))
		}
		if _, e := limbs.Read(s); e != api.ErrSyntax {
			t.Errorf("P1.3: Read of %d bytes: error %d", len(s), e)
		}
	}
}

func TestReadWrongTexts(t *testing.T) {
	for _, s := range []string{
		"", "-", "-0", "00", "007", "-07", "-00", "+1", "+0", "--1", "1-", "- 1", " 1", "1 ", "1\n",
		"1a", "a", "0x10", "1_000", "1.0", "1e3", "1/2", "\x00", "1\x00", "/", ":", "٣", "1٣", "\xff", "−1",
		"0" + strings.Repeat("1", 100), strings.Repeat("1", 100) + "x",
	} {
		if a, e := limbs.Read(s); e != api.ErrSyntax || len(a.L) > 0 || a.Neg {
			t.Errorf("P1.3: Read(%q): %v, error %d", s, a, e)
		}
	}
	if a, e := limbs.Read("0"); e != api.OK || len(a.L) > 0 || a.Neg {
		t.Errorf("P1.3: Read(0): %v, error %d", a, e)
	}
}
