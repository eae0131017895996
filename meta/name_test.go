package meta_test

import (
	"strings"
	"testing"

	"imprimatur/meta"
)

func named(t *testing.T, s string, want bool) {
	t.Helper()
	if got := meta.Name(s); got != want {
		t.Errorf("Name of %q: %t", s, got)
	}
	if names.MatchString(s) != want {
		t.Errorf("by the chapter's words the name %q is the other way round", s)
	}
}

// P15.1: 1 to 32 bytes.
func TestNameLengths(t *testing.T) {
	t.Parallel()
	for n := range 300 {
		for _, of := range []string{"a", "z", "0", "9", "-", "m"} {
			named(t, strings.Repeat(of, n), n >= 1 && n <= 32)
		}
	}
	named(t, strings.Repeat("a", 1<<20), false)
	named(t, strings.Repeat("a", 1<<8+5), false)
	named(t, strings.Repeat("é", 16), false)
}

// P15.1: of small letters, digits and `-`: each byte at each place of names of each length.
func TestNameBytes(t *testing.T) {
	t.Parallel()
	fit := 0
	for b := range 256 {
		is := b >= 'a' && b <= 'z' || b >= '0' && b <= '9' || b == '-'
		if is {
			fit++
		}
		for _, n := range []int{1, 2, 3, 8, 31, 32, 33} {
			for at := range n {
				s := []byte(strings.Repeat("k", n))
				s[at] = byte(b)
				named(t, string(s), is && n <= 32)
			}
		}
	}
	if fit != 37 {
		t.Errorf("%d bytes", fit)
	}
}

// P15.1: names of roles, and what is near them.
func TestNames(t *testing.T) {
	t.Parallel()
	for _, s := range []string{"root", "timestamp", "snapshot", "targets", "one", "a-2", "-", "--", "-a", "a-", "0", "007", "x86-64", "abcdefghijklmnopqrstuvwxyz-01234", "56789"} {
		named(t, s, true)
	}
	for _, s := range []string{"", " ", "Root", "rooT", "roOt", "ROOT", "a b", " a", "a ", "a\n", "\na", "a\x00", "\x00", "a_b", "a.b", "a/b", ".", "..", "a*", "?", "a+b", "a,b", "é", "a\xff", "\xffa", "a\x80b", "\u0430", "\uff41", "\u2010", "a\u2212b", "`", "{", "@", "[", ":", "/"} {
		named(t, s, false)
	}
}
