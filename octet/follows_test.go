package octet_test

import (
	"math/rand"
	"slices"
	"strings"
	"testing"

	"imprimatur/api"
	"imprimatur/octet"
)

// texts are all of at most so many letters, each letter a byte of the alphabet.
func texts(alphabet string, most int) []string {
	all := []string{""}
	for from, n := 0, 0; n < most; n++ {
		to := len(all)
		for _, head := range all[from:to] {
			for i := range len(alphabet) {
				all = append(all, head+alphabet[i:i+1])
			}
		}
		from = to
	}
	return all
}

// randomRow is one that may be packed.
func randomRow(r *rand.Rand) []string {
	list := make([]string, r.Intn(api.MaxParts+1))
	for i := range list {
		b := make([]byte, r.Intn(1021))
		r.Read(b)
		list[i] = string(b)
	}
	return list
}

// P1.4: digits and bytes lead to one another.
func TestDigitsAndBytes(t *testing.T) {
	for _, s := range append(texts("\x00\x7f\xff9a", 4), everyByte()) {
		if got, e := octet.Unhex(octet.Hex(s)); got != s || e != api.OK {
			t.Fatalf("written and read: %q, %d, not %q", got, e, s)
		}
	}
	read := 0
	for _, s := range texts("09afFg", 6) {
		if b, e := octet.Unhex(s); e == api.OK {
			read++
			if got := octet.Hex(b); got != s {
				t.Fatalf("read and written: %q, not %q", got, s)
			}
		}
	}
	if read != 1+16+256+4096 {
		t.Errorf("%d texts were read", read)
	}
}

// P1.4: numbers and bytes lead to one another.
func TestNumbersAndBytes(t *testing.T) {
	for bit := range 64 {
		for _, n := range []uint64{1 << bit, 1<<bit - 1, ^uint64(0) >> bit, 0x0123456789abcdef >> bit} {
			for width := range 9 {
				s, e := octet.Big(n, width)
				if e != api.OK {
					continue
				}
				if got, e := octet.Number(s); got != n || e != api.OK || len(s) != width {
					t.Fatalf("written and read: %d, %d, not %d", got, e, n)
				}
			}
		}
	}
	for _, s := range texts("\x00\x01\x80\xff", 8) {
		n, e := octet.Number(s)
		if e != api.OK {
			t.Fatalf("Number(%q): %d", s, e)
		}
		if got, e := octet.Big(n, len(s)); got != s || e != api.OK {
			t.Fatalf("read and written: %q, %d, not %q", got, e, s)
		}
	}
}

// P1.4: what is packed is read again.
func TestRowsArePackedAndRead(t *testing.T) {
	r := rand.New(rand.NewSource(1))
	list := rows()
	for range 300 {
		list = append(list, randomRow(r))
	}
	for _, want := range list {
		s, e := octet.Pack(want...)
		if e != api.OK {
			t.Fatalf("Pack of %d parts: %d", len(want), e)
		}
		if got, e := octet.Unpack(s); !slices.Equal(got, want) || e != api.OK {
			t.Fatalf("packed and read: %.40q, %d, not %.40q", got, e, want)
		}
	}
}

// P1.4: what is read, packed, is the text; nothing else is read.
func TestTextsAreReadAndPacked(t *testing.T) {
	list := texts("\x00\x01", 14)
	for _, head := range texts("\x00\x01\x02a", 3) { // parts of up to 3 bytes, with something behind
		list = append(list, "\x00\x00\x00\x01"+head, "\x00\x00\x00\x03"+head, head+"\x00\x00\x00\x00", framed(head)+framed(head))
	}
	read := 0
	for _, s := range list {
		l, e := octet.Unpack(s)
		if e == api.ErrShort {
			continue
		}
		if got, f := octet.Pack(l...); e != api.OK || f != api.OK || got != s {
			t.Fatalf("read and packed: %q, %d, %d, not %q", got, e, f, s)
		}
		read++
	}
	if read < 100 {
		t.Errorf("only %d of %d texts were read", read, len(list))
	}
}

// P1.4: no two rows are packed alike.
func TestNoTwoRowsArePackedAlike(t *testing.T) {
	part := []string{"", "a", "aa", "b", "ab", "\x00", "\x00\x00\x00\x00", "\x00\x00\x00\x01", "\x00\x00\x00\x01a", "a\x00\x00\x00\x00", strings.Repeat("\x00", 8)}
	all := [][]string{nil}
	for from, n := 0, 0; n < 3; n++ {
		to := len(all)
		for _, head := range all[from:to] {
			for _, p := range part {
				all = append(all, append(slices.Clone(head), p))
			}
		}
		from = to
	}
	seen := map[string][]string{}
	for _, list := range all {
		s, e := octet.Pack(list...)
		if e != api.OK {
			t.Fatalf("Pack(%q): %d", list, e)
		}
		if other, is := seen[s]; is {
			t.Fatalf("%q and %q are packed alike: %q", other, list, s)
		}
		seen[s] = list
	}
	if len(seen) != 1+11+121+1331 {
		t.Errorf("%d rows", len(seen))
	}
}

// P1: no call panics, whatever bytes it is handed; beside an error there is nothing.
func FuzzAnyText(f *testing.F) {
	for _, s := range []string{"", "6", "61", "\x00\x00\x00\x01a", "\xff\xff\xff\xff", "\x00\x00\x00\x00\x00\x00\x00\x02a"} {
		f.Add(s, uint64(len(s)), len(s)-2)
	}
	f.Fuzz(func(t *testing.T, s string, n uint64, width int) {
		if b, e := octet.Unhex(s); e != api.OK && b != "" || e == api.OK && octet.Hex(b) != s {
			t.Errorf("Unhex(%q): %q, %d", s, b, e)
		}
		if m, e := octet.Number(s); (e == api.OK) != (len(s) <= 8) || e != api.OK && m != 0 {
			t.Errorf("Number(%q): %d, %d", s, m, e)
		}
		if b, e := octet.Big(n, width); e != api.OK && b != "" || e == api.OK && len(b) != width {
			t.Errorf("Big(%d, %d): %q, %d", n, width, b, e)
		}
		l, e := octet.Unpack(s)
		if e != api.OK && len(l) != 0 {
			t.Errorf("Unpack(%q): %q beside %d", s, l, e)
		}
		if p, f := octet.Pack(l...); e == api.OK && (f != api.OK || p != s) {
			t.Errorf("Pack of Unpack(%q): %q, %d", s, p, f)
		}
	})
}
