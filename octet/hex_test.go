package octet_test

import (
	"encoding/hex"
	"strings"
	"testing"

	"imprimatur/api"
	"imprimatur/octet"
)

// everyByte has each byte once, in order.
func everyByte() string {
	all := make([]byte, 256)
	for i := range all {
		all[i] = byte(i)
	}
	return string(all)
}

// P1.1: two digits of each byte, the higher one first.
func TestHex(t *testing.T) {
	for _, c := range []struct{ in, want string }{
		{"", ""},
		{"a\xff", "61ff"},
		{"\x00", "00"},
		{"\x0f", "0f"},
		{"\xf0", "f0"},
		{"\x9a\xa9", "9aa9"},
		{everyByte(), hex.EncodeToString([]byte(everyByte()))},
		{strings.Repeat("\xab", api.MaxText+1), strings.Repeat("ab", api.MaxText+1)},
	} {
		if got := octet.Hex(c.in); got != c.want {
			t.Errorf("Hex(%.20q): %.40q, not %.40q", c.in, got, c.want)
		}
	}
}

// P1.1: of all texts of two bytes, just those of two digits are read.
func TestUnhexOfAllPairs(t *testing.T) {
	const digits = "0123456789abcdef"
	for i := range 1 << 16 {
		in := string([]byte{byte(i >> 8), byte(i)})
		high, low := strings.IndexByte(digits, in[0]), strings.IndexByte(digits, in[1])
		want, wantErr := "", api.ErrHex
		if high >= 0 && low >= 0 {
			want, wantErr = string([]byte{byte(16*high + low)}), api.OK
		}
		if got, e := octet.Unhex(in); got != want || e != wantErr {
			t.Fatalf("Unhex(%q): %q, %d, not %q, %d", in, got, e, want, wantErr)
		}
	}
}

// P1.1: the bytes of digits, in order, however many.
func TestUnhexReads(t *testing.T) {
	for _, c := range []struct{ in, want string }{
		{"", ""},
		{"61ff", "a\xff"},
		{"0ff0", "\x0f\xf0"},
		{hex.EncodeToString([]byte(everyByte())), everyByte()},
		{strings.Repeat("ab", api.MaxText+1), strings.Repeat("\xab", api.MaxText+1)},
	} {
		if got, e := octet.Unhex(c.in); got != c.want || e != api.OK {
			t.Errorf("Unhex(%.20q): %.40q, %d, not %.40q", c.in, got, e, c.want)
		}
	}
}

// P1.1: ErrHex, and no bytes beside it, if there are not two digits for each byte.
func TestUnhexRefuses(t *testing.T) {
	for _, in := range []string{
		"6", "616", "g", "6g", "g6", "FF", "fF", "Ff", "0x61", " 61", "61 ", "6 1", "61\n",
		"61g0", "610g", "g061", "+1", "-1", "\x00\x00", "\xff\xff", "６１",
		strings.Repeat("ab", 1000) + "a",
		strings.Repeat("ab", 1000) + "aA",
	} {
		if got, e := octet.Unhex(in); got != "" || e != api.ErrHex {
			t.Errorf("Unhex(%.20q): %q, %d, not ErrHex", in, got, e)
		}
	}
}
