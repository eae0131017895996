package octet_test

import (
	"math"
	"strings"
	"testing"

	"imprimatur/api"
	"imprimatur/octet"
)

// P1.2: a number in so many bytes, the highest first.
func TestBig(t *testing.T) {
	for _, c := range []struct {
		n     uint64
		width int
		want  string
	}{
		{0, 0, ""},
		{0, 1, "\x00"},
		{0, 8, "\x00\x00\x00\x00\x00\x00\x00\x00"},
		{1, 1, "\x01"},
		{258, 2, "\x01\x02"},
		{258, 3, "\x00\x01\x02"},
		{258, 8, "\x00\x00\x00\x00\x00\x00\x01\x02"},
		{0x01020304, 4, "\x01\x02\x03\x04"},
		{0x0102030405060708, 8, "\x01\x02\x03\x04\x05\x06\x07\x08"},
		{0x8000000000000000, 8, "\x80\x00\x00\x00\x00\x00\x00\x00"},
		{math.MaxUint64, 8, "\xff\xff\xff\xff\xff\xff\xff\xff"},
	} {
		if got, e := octet.Big(c.n, c.width); got != c.want || e != api.OK {
			t.Errorf("Big(%d, %d): %q, %d, not %q", c.n, c.width, got, e, c.want)
		}
	}
}

// P1.2: of each width the greatest number that fits, and the first one that doesn't.
func TestBigAtTheEdgeOfEachWidth(t *testing.T) {
	for width := range 8 {
		over := uint64(1) << (8 * width)
		want := strings.Repeat("\xff", width)
		if got, e := octet.Big(over-1, width); got != want || e != api.OK {
			t.Errorf("Big(%d, %d): %q, %d, not %q", over-1, width, got, e, want)
		}
		for _, n := range []uint64{over, over + 1, 2 * over, math.MaxUint64} {
			if got, e := octet.Big(n, width); got != "" || e != api.ErrArg {
				t.Errorf("Big(%d, %d): %q, %d, not ErrArg", n, width, got, e)
			}
		}
	}
}

// P1.2: a width that is not 0 to 8.
func TestBigRefusesWidths(t *testing.T) {
	for _, width := range []int{-1, -8, math.MinInt, 9, 10, 64, math.MaxInt} {
		for _, n := range []uint64{0, 1, math.MaxUint64} {
			if got, e := octet.Big(n, width); got != "" || e != api.ErrArg {
				t.Errorf("Big(%d, %d): %q, %d, not ErrArg", n, width, got, e)
			}
		}
	}
}

// P1.2: the number of bytes, the highest first.
func TestNumber(t *testing.T) {
	for _, c := range []struct {
		in   string
		want uint64
	}{
		{"", 0},
		{"\x00", 0},
		{"\xff", 255},
		{"\x01\x02", 258},
		{"\x00\x01\x02", 258},
		{"\x02\x01\x00", 0x020100},
		{"\x01\x02\x03\x04\x05\x06\x07", 0x01020304050607},
		{"\x01\x02\x03\x04\x05\x06\x07\x08", 0x0102030405060708},
		{"\x00\x00\x00\x00\x00\x00\x00\x00", 0},
		{"\xff\xff\xff\xff\xff\xff\xff\xff", math.MaxUint64},
	} {
		if got, e := octet.Number(c.in); got != c.want || e != api.OK {
			t.Errorf("Number(%q): %d, %d, not %d", c.in, got, e, c.want)
		}
	}
}

// P1.2: more than 8 bytes are refused, even if the number itself would have room.
func TestNumberRefuses(t *testing.T) {
	for _, in := range []string{
		strings.Repeat("\x00", 9),
		strings.Repeat("\x00", 8) + "\x01",
		strings.Repeat("\xff", 9),
		strings.Repeat("\x01", 16),
		strings.Repeat("\x00", api.MaxText+1),
	} {
		if got, e := octet.Number(in); got != 0 || e != api.ErrArg {
			t.Errorf("Number of %d bytes: %d, %d, not ErrArg", len(in), got, e)
		}
	}
}
