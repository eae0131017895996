package octet_test

import (
	"slices"
	"strings"
	"testing"

	"imprimatur/api"
	"imprimatur/octet"
)

// parts are so many, each of so many bytes.
func parts(many, long int) []string {
	return slices.Repeat([]string{strings.Repeat("p", long)}, many)
}

// framed is a part as the document lays it, made without the package's own calls.
func framed(p string) string {
	n := len(p)
	return string([]byte{byte(n >> 24), byte(n >> 16), byte(n >> 8), byte(n)}) + p
}

// row is of each part its frame, one behind the other.
func row(list []string) string {
	var out strings.Builder
	for _, p := range list {
		out.WriteString(framed(p))
	}
	return out.String()
}

// rows are such as may be packed: none, few, as many as may be, and as long as may be.
func rows() [][]string {
	return [][]string{
		nil,
		{""},
		{"", ""},
		{"a", ""},
		{"", "a"},
		{"ab", "c"},
		{"\x00", "\x00\x00\x00\x01"},
		{strings.Repeat("x", 255)},
		{strings.Repeat("x", 256), "y"},
		{strings.Repeat("x", 258), strings.Repeat("y", 1025)},
		{everyByte(), everyByte()},
		parts(64, 0),
		parts(64, 1),
		parts(64, 1020), // 65536 bytes
		{strings.Repeat("x", 65532)},
		{strings.Repeat("x", 32764), strings.Repeat("y", 32764)},
		{"", strings.Repeat("y", 65528)},
		{strings.Repeat("x", 65528), ""},
	}
}

// P1.3: of each part, in order, its length in 4 bytes, and it.
func TestPack(t *testing.T) {
	got, e := octet.Pack("a", "")
	if got != "\x00\x00\x00\x01a\x00\x00\x00\x00" || e != api.OK {
		t.Errorf("Pack of a and nothing: %q, %d", got, e)
	}
	for _, list := range rows() {
		if got, e := octet.Pack(list...); got != row(list) || e != api.OK {
			t.Errorf("Pack(%.40q): %.40q, %d", list, got, e)
		}
	}
}

// P1.3: 65 parts are too many, 65537 bytes too long; both: too many.
func TestPackRefuses(t *testing.T) {
	for _, c := range []struct {
		name string
		list []string
		want api.Errno
	}{
		{"65 parts", parts(65, 0), api.ErrMany},
		{"66 parts", parts(66, 1), api.ErrMany},
		{"1000 parts", parts(1000, 0), api.ErrMany},
		{"one byte more, in one part", []string{strings.Repeat("x", 65533)}, api.ErrLong},
		{"one byte more, in two", []string{strings.Repeat("x", 65528), "y"}, api.ErrLong},
		{"one byte more, in 64", append(parts(63, 1020), strings.Repeat("x", 1021)), api.ErrLong},
		{"a length more", []string{strings.Repeat("x", 65532), ""}, api.ErrLong},
		{"only the lengths are too long", []string{strings.Repeat("x", 65529), ""}, api.ErrLong},
		{"a long one first", []string{strings.Repeat("x", 65537), "y"}, api.ErrLong},
		{"a long one last", []string{"y", strings.Repeat("x", 1<<20)}, api.ErrLong},
		{"65 parts, one byte more", append(parts(64, 1020), ""), api.ErrMany},
		{"65 long parts", parts(65, 65536), api.ErrMany},
	} {
		if got, e := octet.Pack(c.list...); got != "" || e != c.want {
			t.Errorf("%s: %.40q, %d, not %d", c.name, got, e, c.want)
		}
	}
}

// P1.3: the parts, one behind the other.
func TestUnpack(t *testing.T) {
	for _, want := range rows() {
		if got, e := octet.Unpack(row(want)); !slices.Equal(got, want) || e != api.OK {
			t.Errorf("Unpack(%.40q): %.40q, %d", row(want), got, e)
		}
	}
}

// P1.3: a text that breaks off anywhere but between two parts.
func TestUnpackBreaksOff(t *testing.T) {
	list := []string{"abc", "", "de", strings.Repeat("x", 300)}
	whole, ends := row(list), map[int]int{0: 0}
	for i := range list {
		ends[len(row(list[:i+1]))] = i + 1
	}
	for cut := range len(whole) + 1 {
		got, e := octet.Unpack(whole[:cut])
		if many, ok := ends[cut]; ok {
			if e != api.OK || !slices.Equal(got, list[:many]) {
				t.Errorf("the first %d bytes: %q, %d, not %d parts", cut, got, e, many)
			}
		} else if e != api.ErrShort || len(got) != 0 {
			t.Errorf("the first %d bytes: %q, %d, not ErrShort", cut, got, e)
		}
	}
}

// P1.3: too long ahead of all else; then part by part, and too many at the beginning of the 65th one.
func TestUnpackRefuses(t *testing.T) {
	full := row(parts(64, 0))
	for _, c := range []struct {
		name, in string
		want     api.Errno
	}{
		{"a length of 1 byte", "\x00", api.ErrShort},
		{"a length of 3 bytes", "\x00\x00\x00", api.ErrShort},
		{"a part that is not there", "\x00\x00\x00\x01", api.ErrShort},
		{"a part with a byte missing", "\x00\x00\x00\x03ab", api.ErrShort},
		{"lengths with the lowest byte first", "\x01\x00\x00\x00a", api.ErrShort},
		{"the greatest length", "\xff\xff\xff\xffab", api.ErrShort},
		{"a length of 2^31", "\x80\x00\x00\x00ab", api.ErrShort},
		{"a byte behind the last part", framed("ab") + "c", api.ErrShort},

		{"65 parts", row(parts(65, 0)), api.ErrMany},
		{"65 parts of a byte", row(parts(65, 1)), api.ErrMany},
		{"a byte behind 64 parts", full + "\x00", api.ErrMany},
		{"a broken 65th part", full + "\x00\x00\x00\x09a", api.ErrMany},
		{"a broken 66th part", row(parts(65, 0)) + "\x00", api.ErrMany},
		{"a broken 64th part", row(parts(63, 0)) + "\x00\x00\x00\x09a", api.ErrShort},
		{"a 64th length that tells too much of what is there", row(parts(63, 0)) + "\x00\x00\x20\x00" + strings.Repeat("\x00", 400), api.ErrShort},
		{"65 parts that fill the room", row(append(parts(64, 0), strings.Repeat("x", 65536-4*65))), api.ErrMany},
		{"a broken text that fills the room", strings.Repeat("x", 65536), api.ErrShort},

		{"one byte more, of one part", row(parts(1, 65533)), api.ErrLong},
		{"one byte more, of two", row([]string{strings.Repeat("x", 65528), "y"}), api.ErrLong},
		{"one byte more, behind a whole row", row(parts(64, 1020)) + "x", api.ErrLong},
		{"one byte more, broken", strings.Repeat("x", 65537), api.ErrLong},
		{"one byte more, of too many", strings.Repeat("\x00", 65537), api.ErrLong},
		{"far too long", strings.Repeat("\x00", 1<<20), api.ErrLong},
	} {
		if got, e := octet.Unpack(c.in); len(got) != 0 || e != c.want {
			t.Errorf("%s: %d parts, %d, not %d", c.name, len(got), e, c.want)
		}
	}
}

// R1, R4: no call changes the row that it was handed, or keeps anything of it.
func TestPackLeavesItsPartsAlone(t *testing.T) {
	list := []string{"b", "", "a"}
	packed, _ := octet.Pack(list...)
	if !slices.Equal(list, []string{"b", "", "a"}) {
		t.Errorf("Pack changed its parts: %q", list)
	}
	one, _ := octet.Unpack(packed)
	one[0] = "other"
	two, _ := octet.Unpack(packed)
	again, _ := octet.Pack(list...)
	if !slices.Equal(two, list) || again != packed {
		t.Errorf("behind other calls: %q, %q", two, again)
	}
}
