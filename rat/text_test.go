package rat_test

import (
	"math/big"
	"strings"
	"testing"

	"ashlar/api"
	"ashlar/limbs"
	"ashlar/rat"
)

// textOf is the oracle's text: big.Rat's own writes whole numbers over 1.
func textOf(x *big.Rat) string { return strings.TrimSuffix(x.String(), "/1") }

func TestTextAndBack(t *testing.T) {
	for _, a := range samples() {
		want := textOf(bigRat(a))
		if got := rat.Text(a); got != want {
			t.Errorf("P2.2: Text %s: %q, not %q", name(a), got, want)
		}
		got, e := rat.Read(want)
		if e != api.OK {
			t.Errorf("P2.2: Read %q: error %d", want, e)
		}
		expect(t, "P2.2: Read "+want, got, bigRat(a))
	}
}

func TestTexts(t *testing.T) {
	for _, row := range []struct {
		num, den int64
		text     string
	}{
		{6, -4, "-3/2"}, {0, -5, "0"}, {-7, 1, "-7"}, {7, -7, "-1"}, {1, 10, "1/10"},
		{10, 1, "10"}, {-1, 11, "-1/11"}, {100, 3, "100/3"}, {-1 << 63, -1, "9223372036854775808"},
		{1, -1 << 63, "-1/9223372036854775808"},
	} {
		if got := rat.Text(of(t, row.num, row.den)); got != row.text {
			t.Errorf("P2.2: Text of %d over %d: %q", row.num, row.den, got)
		}
		got, e := rat.Read(row.text)
		if e != api.OK || rat.Cmp(got, of(t, row.num, row.den)) != 0 {
			t.Errorf("P2.2: Read %q: %s, error %d", row.text, name(got), e)
		}
	}
}

func TestNoTexts(t *testing.T) {
	for _, s := range []string{
		"", " ", "/", "-", "+", "-/", "/2", "1/", "-/2", "1//2", "1/2/3", "1/2/", "/1/2",
		"2/4", "-2/4", "6/3", "3/1", "-3/1", "1/1", "0/1", "0/2", "0/0", "1/0", "-1/0",
		"-0", "-0/1", "-0/5", "5/-7", "-5/-7", "1/-1", "1/-0", "5/+7", "+5", "+5/7", "--5", "5-",
		"00", "007", "01/2", "1/02", "1/007", "1 /2", "1/ 2", " 1/2", "1/2 ", "1/2\n", "\x001/2",
		"1.5", "1e3", "0x10", "1_000", "1,5", "a", "1/b", "٣/٤", "1\u20442", "1\\2", "1:2", "0.5",
		"18446744073709551616/2", "4294967296/4294967296", "9223372036854775808/-1",
	} {
		got, e := rat.Read(s)
		expectError(t, "P2.2: Read "+s, got, e, api.ErrSyntax)
	}
}

// longText is the text of a number, of n bytes with a line (at byte n/2) if
// broken says so.
func longText(n int, broken bool) string {
	if !broken {
		return "-" + strings.Repeat("7", n-1)
	}
	// A row of ones over a power of ten is in lowest terms.
	return strings.Repeat("1", n/2) + "/1" + strings.Repeat("0", n-n/2-2)
}

func TestLongTexts(t *testing.T) {
	for _, broken := range []bool{false, true} {
		for _, n := range []int{api.MaxText - 1, api.MaxText} {
			s := longText(n, broken)
			got, e := rat.Read(s)
			if len(s) != n || e != api.OK || rat.Text(got) != s {
				t.Errorf("P2.2: Read of %d bytes: error %d", len(s), e)
			}
		}
		for _, n := range []int{api.MaxText + 1, 2 * api.MaxText} {
			got, e := rat.Read(longText(n, broken))
			expectError(t, "P2.2: Read of too many bytes", got, e, api.ErrSyntax)
		}
	}
	// Both parts of it are short enough for themselves.
	long := strings.Repeat("1", api.MaxText-1)
	got, e := rat.Read(long + "/" + long)
	expectError(t, "P2.2: Read of two long parts", got, e, api.ErrSyntax)
}

// Text has no limit: what Read refuses for its length is still written.
func TestTextAboveTheLimit(t *testing.T) {
	ten, _ := limbs.Power(limbs.Of(10), 66000)
	a, _ := rat.Over(limbs.Of(-1), ten)
	if got := rat.Text(a); got != "-1/1"+strings.Repeat("0", 66000) {
		t.Errorf("P2.2: Text of %d bytes", len(got))
	}
}
