package glob_test

import (
	"fmt"
	"strings"
	"testing"

	"imprimatur/glob"
)

// P13.1: ordinary paths and patterns, and such as may not be.
func TestPathAndRight(t *testing.T) {
	t.Parallel()
	for _, s := range []string{"a", "x", "Z", "0", "9", "-", "_", "a/b", "a/b.txt", "pool/main/g/go-1.27.3_amd64.deb", "A-Z/a_z/0.9", "--/__", "a/a/a", "meta/root/2"} {
		may(t, "ordinary", s, true, true)
	}
	for _, s := range []string{"a/*.txt", "*/*", "a?c/b*", "?/x", "x/?", "pool/*/g/go-?.*_amd64.deb", "-*_", "*?*"} {
		may(t, "with marks", s, false, true)
	}
	for _, s := range []string{" ", "a b", " a", "a ", "a\n", "a\x00", "a,b", "a:b", `a\b`, "[a]", "{a}", "a+b", "a=b", "~a", "a@b", "a%2fb", "a|b", "!a", "#", "$a", "a&b", "(a)", "a'b", `"a"`, "a;b", "<a>", "^a", "`a`", "*\x00", "?\n", "* ", `\*`, `\?`, "[*]"} {
		may(t, "another sign", s, false, false)
	}
	for _, s := range []string{"ä", "é", "aé", "éa", "a/é", "ß", "Ω", "б", "日本", "Ⅷ", "٣", "a\uff0fb", "a\u2215b", "\uff0e", "\uff0a", "\uff1f", "ª", "\u212a", "\u017f", "\xe4", "\xc3", "\xa9", "*é", "é?"} {
		may(t, "a letter of another kind", s, false, false)
	}
}

// withSlashes is a text of so many bytes in as many parts as can be.
func withSlashes(n int, part string) string {
	s := strings.Repeat(part+"/", n/2) + part
	if n%2 == 0 {
		return part + s[:n-1]
	}
	return s[:n]
}

// P13.1: of 1 to 200 bytes, in one part or in several.
func TestLengths(t *testing.T) {
	t.Parallel()
	var lengths []int
	for n := 1; n <= 420; n++ {
		lengths = append(lengths, n)
	}
	for _, n := range append(lengths, 456, 457, 512, 1000, 65535, 65536, 65537, 1<<20, 1<<20+1) {
		what := fmt.Sprintf("%d bytes", n)
		fits := n <= 200
		for _, one := range []string{"a", "Z", "0", "-", "_"} {
			may(t, what, strings.Repeat(one, n), fits, fits)
			may(t, what+" in short parts", withSlashes(n, one), fits, fits)
			if n > 2 {
				may(t, what+" in two parts", one+"/"+strings.Repeat(one, n-2), fits, fits)
				may(t, what+" in two parts", strings.Repeat(one, n-2)+"/"+one, fits, fits)
				may(t, what+" of points", strings.Repeat(".", n), fits, fits)
			}
		}
		for _, one := range []string{"*", "?"} {
			may(t, what+" of marks", strings.Repeat(one, n), false, fits)
			may(t, what+" of marks in short parts", withSlashes(n, one), false, fits)
			may(t, what+" with a mark at the end", strings.Repeat("a", n-1)+one, false, fits)
			may(t, what+" with a mark at the beginning", one+strings.Repeat("a", n-1), false, fits)
		}
	}
	may(t, "no byte", "", false, false)
	for _, n := range []int{1, 199, 200} {
		s := strings.Repeat("b", n)
		if !glob.Match(s, s) {
			t.Errorf("a path of %d bytes is not one of itself", n)
		}
	}
}

// P13.1: each byte alone, at the first, a middle and the last place of the first, a middle and the last part.
func TestEachByte(t *testing.T) {
	t.Parallel()
	isIn, areMarks := 0, 0
	for b := range 256 {
		one := string([]byte{byte(b)})
		letter := b >= 'a' && b <= 'z' || b >= 'A' && b <= 'Z' || b >= '0' && b <= '9' || one == "-" || one == "_"
		mark := one == "*" || one == "?"
		if letter {
			isIn++
		}
		if mark {
			areMarks++
		}
		for _, around := range [][2]string{{"", ""}, {"", "/b"}, {"b/", ""}, {"b/", "/b"}, {"b/c/", "/d/e"}} {
			for _, beside := range [][2]string{{"", ""}, {"", "a"}, {"a", ""}, {"a", "a"}, {"aB0", "-_9"}, {"", "aB0-_9"}, {"aB0-_9", ""}, {".", "a"}, {"a", "."}} {
				what := fmt.Sprintf("byte %d between %q and %q", b, around[0]+beside[0], beside[1]+around[1])
				s := around[0] + beside[0] + one + beside[1] + around[1]
				switch one {
				case ".", "/":
					may(t, what, s, pathMayBe(s), pathMayBe(s))
				default:
					may(t, what, s, letter, letter || mark)
				}
			}
		}
		may(t, "a byte twice, with more", one+one+"a", letter || one == ".", letter || mark || one == ".")
	}
	if isIn != 26+26+10+2 || areMarks != 2 {
		t.Errorf("%d letters, %d marks", isIn, areMarks)
	}
}

// P13.1: no part is empty.
func TestSlashes(t *testing.T) {
	t.Parallel()
	for _, s := range []string{"/", "//", "///", "/a", "//a", "a/", "a//", "/a/", "a//b", "a///b", "/a/b", "a/b/", "a//b/c", "a/b//c", "a/b/c/", "/a/b/c", "//a/b", "a/b//", "/./a", "a/./", "/.", "./", "/..", "../", "/*", "*/", "*//*", "/?", "?/", "?//?", "//*", "/*/"} {
		may(t, "an empty part", s, false, false)
	}
	for _, s := range []string{"a/b", "a/b/c", "a/b/c/d", "aa/bb", "a/bb/c"} {
		may(t, "no empty part", s, true, true)
	}
	for _, s := range []string{"*/*", "*/a/*", "?/?", "?/*/?"} {
		may(t, "no empty part", s, false, true)
	}
}

// partMay holds what may be of a part at the first, a middle and the last place, alone and among others.
func partMay(t *testing.T, part string, asPath, asPattern bool) {
	t.Helper()
	for _, around := range [][2]string{{"", ""}, {"", "/b"}, {"b/", ""}, {"b/", "/b"}, {"b/c/", "/d/e"}, {"", "/b/c"}, {"b/c/", ""}, {".b/", "/b."}, {"..b/", "/b.."}, {"-/", "/_"}, {".../", "/..."}} {
		may(t, fmt.Sprintf("the part %q", part), around[0]+part+around[1], asPath, asPattern)
	}
	for _, around := range [][2]string{{"*/", ""}, {"", "/?"}, {"*/", "/b"}, {"?/", "/**"}, {"b*/", "/?b"}} {
		may(t, fmt.Sprintf("the part %q beside marks", part), around[0]+part+around[1], false, asPattern)
	}
	for _, around := range [][2]string{{"./", ""}, {"../", ""}, {"", "/."}, {"", "/.."}, {"b/./", "/b"}, {"b/../", "/b"}, {"b/", "/./b"}, {"b/", "/../b"}, {"../", "/.."}, {"*/./", "/*"}, {"?/", "/.."}} {
		may(t, fmt.Sprintf("the part %q beside what may not be", part), around[0]+part+around[1], false, false)
	}
}

// P13.1: no part is `.` or `..`; others with points may be.
func TestPoints(t *testing.T) {
	t.Parallel()
	for _, part := range []string{".", "..", ""} {
		partMay(t, part, false, false)
	}
	for _, part := range []string{"...", "....", ".a", "a.", "..a", "a..", ".a.", "a.b", "a..b", ".-", "-.", "._", "_.", ".0", "..0", "0..", ".-.", "a", "-", "_", "--", "-a", "A.Z"} {
		partMay(t, part, true, true)
	}
	for _, part := range []string{"*", "?", ".*", "*.", ".?", "?.", "??", "**", "..*", "*..", "..?", "?..", ".*.", ".?.", ".**", "**.", "*?", "?*", "a*", "*a", "a?", "?a", "a*b", "*.txt"} {
		partMay(t, part, false, true)
	}
	for _, part := range []string{". ", " .", ".\x00", "..\x00", "\x00..", ".\n", ".é", "*\xff", "\xff?"} {
		partMay(t, part, false, false)
	}
}

// P13.1: all short texts of the signs that tell.
func TestShortTexts(t *testing.T) {
	t.Parallel()
	paths, patterns := 0, 0
	for _, s := range append(spelledOf("a./*?", 6), spelledOf("./", 12)...) {
		may(t, "a short text", s, pathMayBe(s), patternMayBe(s))
		if pathMayBe(s) {
			paths++
		}
		if patternMayBe(s) {
			patterns++
		}
	}
	if paths < 250 || patterns < 5000 {
		t.Errorf("%d paths, %d patterns", paths, patterns)
	}
}
