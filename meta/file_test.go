package meta_test

import (
	"strings"
	"testing"

	"imprimatur/api"
	"imprimatur/meta"
)

// known are bytes whose sums are known.
func known() map[string]string {
	return map[string]string{
		"":                           "e3b0c44298fc1c149afbf4c8996fb92427ae41e4649b934ca495991b7852b855",
		"a":                          "ca978112ca1bbdcafac231b39a23dc4da786eff8147c4e72b9807785afee48bb",
		"abc":                        "ba7816bf8f01cfea414140de5dae2223b00361a396177a9cb410ff61f20015ad",
		strings.Repeat("a", 1000000): "cdc76e5c9914fb9281a1c7e284d73e67f1809a48a497200e046d39ccc7112cd0",
	}
}

// data are bytes of many lengths.
func data() []string {
	list := []string{"\x00", "é\xff", strings.Repeat("x", 65535), strings.Repeat("x", 65536), strings.Repeat("x", 65537)}
	for n := range 200 {
		list = append(list, strings.Repeat("\x00y", n)[n:])
	}
	return list
}

// P15.2: a file of a name, a version, as many bytes, and their sum.
func TestRefer(t *testing.T) {
	t.Parallel()
	for s, digits := range known() {
		if got := meta.Refer("name", 3, s); got != (api.File{Name: "name", Version: 3, Size: len(s), Sum: bytes(digits)}) {
			t.Errorf("Refer of %d bytes: %+v", len(s), got)
		}
	}
	for i, s := range data() {
		if got := meta.Refer("name", i, s); got != (api.File{Name: "name", Version: i, Size: len(s), Sum: summed(s)}) {
			t.Errorf("Refer of %d bytes: %+v", len(s), got)
		}
	}
}

// P15.2: whatever the name and the version are, also such as may not be.
func TestReferOfAnyName(t *testing.T) {
	t.Parallel()
	for _, name := range []string{"", "a", "A/b", "é", "\x00", "..", strings.Repeat("a", 70000)} {
		for _, version := range []int{least, -1, 0, 1, million, million + 1, greatest} {
			if got := meta.Refer(name, version, "abc"); got != (api.File{Name: name, Version: version, Size: 3, Sum: summed("abc")}) {
				t.Errorf("Refer of %.100q, %d: %+v", name, version, got)
			}
		}
	}
}

func fits(t *testing.T, what string, f api.File, s string, want api.Errno) {
	t.Helper()
	if e := meta.Fits(f, s); e != want {
		t.Errorf("%s: Fits of %d bytes, of Size %d, Sum %x: %d, not %d", what, len(s), f.Size, f.Sum, e, want)
	}
}

// P15.2: bytes of this Size and Sum, and no other ones.
func TestFits(t *testing.T) {
	t.Parallel()
	list := data()
	for s := range known() {
		list = append(list, s)
	}
	for _, s := range list {
		f := api.File{Name: "a", Size: len(s), Sum: summed(s)}
		fits(t, "its own", f, s, api.OK)
		fits(t, "its own, referred to", meta.Refer("a", 1, s), s, api.OK)
		fits(t, "a byte more", f, s+"\x00", api.ErrHash)
		fits(t, "a byte ahead", f, "\x00"+s, api.ErrHash)
		fits(t, "twice and more", f, s+s+"x", api.ErrHash)
		if s != "" {
			fits(t, "a byte less", f, s[1:], api.ErrHash)
			fits(t, "no bytes", f, "", api.ErrHash)
			fits(t, "another byte at the end", f, s[:len(s)-1]+"!", api.ErrHash)
			fits(t, "another byte at the beginning", f, "!"+s[1:], api.ErrHash)
		}
	}
}

// P15.2: another Size, and the right Sum.
func TestFitsOfAnotherSize(t *testing.T) {
	t.Parallel()
	for _, s := range append(data(), "abc") {
		n := len(s)
		for _, size := range []int{least, -n - 1, -1, 0, n - 2, n - 1, n + 1, n + 2, n + 256, n + 65536, n + 1<<32, greatest} {
			want := api.ErrHash
			if size == n {
				want = api.OK
			}
			fits(t, "another Size", api.File{Name: "a", Size: size, Sum: summed(s)}, s, want)
		}
	}
}

// P15.2: another Sum, and the right Size.
func TestFitsOfAnotherSum(t *testing.T) {
	t.Parallel()
	for _, s := range []string{"", "a", "abc", strings.Repeat("x", 65536)} {
		sum := summed(s)
		for bit := range 256 {
			b := []byte(sum)
			b[bit/8] ^= 1 << (bit % 8)
			fits(t, "a bit of the Sum", api.File{Size: len(s), Sum: string(b)}, s, api.ErrHash)
		}
		for _, other := range []string{"", sum[:31], sum[1:], sum + "\x00", "\x00" + sum, sum + sum, hexed(sum), summed(sum), summed(s + "\x00"), strings.Repeat("\x00", 32)} {
			fits(t, "another Sum", api.File{Size: len(s), Sum: other}, s, api.ErrHash)
		}
	}
}

// P15.2: only Size and Sum count, also of a file that may not be.
func TestFitsOfAnyFile(t *testing.T) {
	t.Parallel()
	s := strings.Repeat("x", 70000)
	for _, name := range []string{"", "a", "another", "..", "\xff"} {
		for _, version := range []int{least, -1, 0, 1, million + 1, greatest} {
			fits(t, "any file", api.File{Name: name, Version: version, Size: 3, Sum: summed("abc")}, "abc", api.OK)
			fits(t, "any file", api.File{Name: name, Version: version, Size: 3, Sum: summed("abc")}, "abd", api.ErrHash)
			fits(t, "a great one", api.File{Name: name, Version: version, Size: len(s), Sum: summed(s)}, s, api.OK)
		}
	}
	fits(t, "the file of nothing", api.File{}, "", api.ErrHash)
}
