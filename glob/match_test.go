package glob_test

import (
	"fmt"
	"math/rand"
	"strings"
	"testing"
	"time"

	"imprimatur/glob"
)

// P13.1: the chapter's examples.
func TestExamples(t *testing.T) {
	t.Parallel()
	matches(t, "the chapter's", "a/*.txt", "a/b.txt", true)
	matches(t, "the chapter's", "a/*.txt", "a/b/c.txt", false)
	matches(t, "the chapter's", "?", "x", true)
	matches(t, "the chapter's", "?", "xy", false)
}

// P13.1: parts without marks are one another's if they are the same, byte by byte.
func TestMatchWithoutMarks(t *testing.T) {
	t.Parallel()
	for _, c := range []struct {
		pattern, path string
		want          bool
	}{
		{"a", "a", true}, {"abc", "abc", true}, {"A-b_0.9", "A-b_0.9", true}, {".a", ".a", true}, {"...", "...", true}, {"-", "-", true}, {"_", "_", true}, {"Z", "Z", true},
		{"abc", "ab", false}, {"abc", "a", false}, {"abc", "bc", false}, {"ab", "abc", false}, {"a", "abc", false}, {"bc", "abc", false}, {"b", "abc", false}, {"a", "aa", false}, {"aa", "a", false},
		{"abc", "xbc", false}, {"abc", "axc", false}, {"abc", "abx", false}, {"abc", "cba", false}, {"ab", "ba", false},
		{"abc", "Abc", false}, {"abc", "aBc", false}, {"abc", "abC", false}, {"ABC", "abc", false}, {"abc", "ABC", false}, {"a", "A", false}, {"Z", "z", false},
		{"a.b", "axb", false}, {"axb", "a.b", false}, {"...", "..a", false}, {"..a", "...", false}, {"a-b", "a_b", false}, {".a", "a", false}, {"a.", "a", false}, {"0", "O", false},
	} {
		matchesAnywhere(t, "without marks", c.pattern, c.path, c.want)
	}
	for _, n := range []int{50, 100, 199, 200} {
		s := strings.Repeat("ab-9Z", 40)[:n]
		matchesAnywhere(t, "long", s, s, true)
		for _, at := range []int{0, 1, n / 2, n - 2, n - 1} {
			matchesAnywhere(t, fmt.Sprintf("long, another byte %d", at), s, s[:at]+"q"+s[at+1:], false)
			matchesAnywhere(t, fmt.Sprintf("long, without byte %d", at), s, s[:at]+s[at+1:], false)
			matchesAnywhere(t, fmt.Sprintf("long, byte %d more", at), s[:at]+s[at+1:], s, false)
		}
	}
}

// P13.1: as many parts, each one of its own place.
func TestMatchOfParts(t *testing.T) {
	t.Parallel()
	for _, c := range []struct {
		pattern, path string
		want          bool
	}{
		{"a/b", "a/b", true}, {"a/b/c", "a/b/c", true}, {"a/b/c/d/e", "a/b/c/d/e", true}, {"a/a", "a/a", true},
		{"a", "a/b", false}, {"a", "b/a", false}, {"a", "a/a", false}, {"a/b", "a", false}, {"a/b", "b", false}, {"a/a", "a", false}, {"a/b", "ab", false}, {"ab", "a/b", false},
		{"a/b", "a/b/c", false}, {"a/b/c", "a/b", false}, {"a/b/c", "b/c", false}, {"b/c", "a/b/c", false}, {"a/c", "a/b/c", false}, {"a/b/c", "a/c", false}, {"a/a/a", "a/a", false}, {"a/a", "a/a/a", false},
		{"a/b", "b/a", false}, {"a/b/c", "a/c/b", false}, {"a/b/c", "c/b/a", false}, {"a/b/c", "x/b/c", false}, {"a/b/c", "a/x/c", false}, {"a/b/c", "a/b/x", false},
		{"ab/c", "a/bc", false}, {"a/bc", "ab/c", false}, {"ab/cd", "abc/d", false}, {"aa/a", "a/aa", false}, {"a/B", "a/b", false}, {"A/b", "a/b", false},
		{"*/b", "a/b", true}, {"*/b", "a/x", false}, {"a/*", "a/b", true}, {"a/*", "x/b", false}, {"*/*", "a/b", true}, {"*/*", "a", false}, {"*", "a/b", false}, {"*/*", "a/b/c", false}, {"*/*/*", "a/b", false}, {"*/*/*", "a/b/c", true},
		{"a*/b", "a/b", true}, {"a*/b", "ax/b", true}, {"a*/b", "axyz/b", true}, {"a*/b", "ax/bx", false}, {"a*/b", "ax/xb", false}, {"a*/b", "xa/b", false}, {"a*/b", "ab", false}, {"a*/b", "axb", false}, {"a*/b", "ab/b/b", false},
		{"a/*b", "a/b", true}, {"a/*b", "a/xb", true}, {"a/*b", "ax/b", false}, {"a/*b", "xa/b", false}, {"a/*b", "a/x/b", false}, {"a/*/c", "a/b/c", true}, {"a/*/c", "a/b/b/c", false}, {"a/*/c", "a/c", false}, {"a/*/c", "a/c/c", true},
		{"a*", "a/b", false}, {"*b", "a/b", false}, {"a*b", "a/b", false}, {"a*b", "ax/xb", false}, {"**", "a/b", false}, {"*?*", "a/b", false}, {"**/b", "b", false}, {"**/b", "a/a/b", false}, {"**/b", "a/b", true}, {"a/**", "a", false}, {"a/**", "a/b/c", false},
		{"?", "a/b", false}, {"???", "a/b", false}, {"a?b", "a/b", false}, {"a??b", "a/xb", false}, {"?/?", "a/b", true}, {"?/?", "ab/c", false}, {"?/?", "a/bc", false}, {"??/?", "ab/c", true}, {"?/?/?", "a/b", false}, {"?", "ab", false}, {"*?", "a/b", false}, {"?*", "a/b", false},
		{"a*c/d*f/g*i", "abc/def/ghi", true}, {"a*c/d*f/g*i", "abc/dex/ghi", false}, {"a*c/d*f/g*i", "abx/def/ghi", false}, {"a*c/d*f/g*i", "abc/def/ghx", false}, {"a*/*a", "ab/ba", true}, {"a*/*a", "ba/ab", false}, {"*a*/*b*", "xax/xbx", true}, {"*a*/*b*", "xbx/xax", false},
	} {
		matches(t, "parts", c.pattern, c.path, c.want)
		matches(t, "parts behind one", "z/"+c.pattern, "z/"+c.path, c.want)
		matches(t, "parts ahead of one", c.pattern+"/z", c.path+"/z", c.want)
	}
	for n := 1; n <= 100; n++ {
		for m := 1; m <= 100; m++ {
			what := fmt.Sprintf("%d parts, %d parts", n, m)
			matches(t, what, strings.Repeat("*/", n-1)+"a", strings.Repeat("b/", m-1)+"a", n == m)
			matches(t, what, strings.Repeat("?/", n-1)+"?", strings.Repeat("a/", m-1)+"a", n == m)
			matches(t, what, strings.Repeat("a/", n-1)+"a", strings.Repeat("a/", m-1)+"a", n == m)
		}
		for m := range n {
			what := fmt.Sprintf("%d parts, part %d", n, m)
			s := strings.Repeat("a/", m) + "b" + strings.Repeat("/a", n-1-m)
			matches(t, what, strings.Repeat("a/", m)+"?"+strings.Repeat("/a", n-1-m), s, true)
			matches(t, what, strings.Repeat("*/", m)+"b"+strings.Repeat("/*", n-1-m), s, true)
			matches(t, what+" is another one", strings.Repeat("a/", n-1)+"a", s, false)
			matches(t, what+" is another one", strings.Repeat("*/", m)+"a"+strings.Repeat("/*", n-1-m), s, false)
		}
	}
}

// P13.1: a pattern or a path that may not be fits nothing, though all else fits.
func TestMatchOfWhatMayNotBe(t *testing.T) {
	t.Parallel()
	for _, s := range []string{"", "/", "//", ".", "..", "a/", "/a", "a//b", "a/./b", "a/../b", "./a", "../a", "a/.", "a/..", "a b", "a\x00", "\n", "é", "\xff", "a/é", "[a]", `\a`, "a,b"} {
		matchesAnywhere(t, "neither may be", s, s, false)
	}
	for _, c := range [][2]string{
		{"*", ""}, {"*", "."}, {"*", ".."}, {"?", "."}, {"??", ".."}, {".?", ".."}, {"?.", ".."}, {".*", "."}, {".*", ".."}, {"*.", ".."}, {"**", ""}, {"*/*", "/"}, {"*/*", "a/"}, {"*/*", "/a"}, {"*/*", "a/."}, {"*/*", "../a"}, {"*/*/*", "a//b"}, {"*/?/*", "a/./b"},
		{"*", " "}, {"?", "\x00"}, {"*", "a b"}, {"a*", "a\n"}, {"?", "\xff"}, {"*", "é"}, {"??", "é"}, {"?", "é"}, {"*", "*"}, {"?", "?"}, {"?", "*"}, {"*", "?"}, {"a*", "a*"}, {"a?", "a?"}, {"*b", "*b"}, {"a*b", "a*b"}, {"**", "**"}, {"*/a", "*/a"}, {"a/?", "a/?"}, {"a/*", "a/b*"},
	} {
		matchesAnywhere(t, "the path may not be", c[0], c[1], false)
	}
	for _, c := range [][2]string{
		{"", "a"}, {".", "a"}, {"..", "ab"}, {"*/", "a"}, {"/*", "a"}, {"*/", "a/b"}, {"*//b", "a/b"}, {"*/.", "a/b"}, {"./*", "a/b"}, {"../*", "ab/c"}, {"[a]", "a"}, {"[ab]", "a"}, {"[^b]", "a"}, {"[a-c]", "b"}, {"{a,b}", "a"}, {`\a`, "a"}, {`a\`, "a"}, {"a|b", "a"}, {"+", "a"}, {"a+", "aa"}, {"a b", "ab"}, {" *", "a"}, {"* ", "a"}, {"*\x00", "a"}, {"#", "1"}, {"%", "a"}, {"*\xff*", "a"}, {"!b", "a"}, {"(a)", "a"}, {"a$", "a"}, {"^a", "a"}, {"[", "a"}, {"*[", "a"},
	} {
		matchesAnywhere(t, "the pattern may not be", c[0], c[1], false)
	}
	for n := 199; n <= 202; n++ {
		s := strings.Repeat("a", n)
		what, fits := fmt.Sprintf("%d bytes", n), n <= 200
		matches(t, what, s, s, fits)
		matches(t, what, strings.Repeat("?", n), s, fits)
		matches(t, what+" of a path", "*", s, fits)
		matches(t, what+" of a path", "a*a", s, fits)
		matches(t, what+" of a pattern", strings.Repeat("*", n), "a", fits)
		matches(t, what+" of a pattern", strings.Repeat("*", n-1)+"a", "a", fits)
		matches(t, what+" in parts", withSlashes(n, "*"), withSlashes(n, "a"), fits)
		matches(t, what+" in parts", withSlashes(n, "a"), withSlashes(n, "a"), fits)
	}
	for _, huge := range []string{strings.Repeat("a", 1<<22), strings.Repeat("*", 1<<22), strings.Repeat("a/", 1<<21) + "a", strings.Repeat("*a", 1<<21)} {
		matches(t, "far too long", huge, huge, false)
		matches(t, "far too long a path", "*", huge, false)
		matches(t, "far too long a pattern", huge, "a", false)
	}
}

// P13.1: `?` stands for any one byte, at each place.
func TestQuestionMarks(t *testing.T) {
	t.Parallel()
	for _, s := range []string{"abcde", "a", "ab", ".-_", "a.b", "aaaa", "...", "Zz09"} {
		for at := range len(s) {
			before, behind := s[:at], s[at+1:]
			for b := range 256 {
				other := before + string([]byte{byte(b)}) + behind
				if b != '/' {
					matches(t, "any one byte", before+"?"+behind, other, pathMayBe(other))
				}
			}
			matchesAnywhere(t, "its own byte", before+"?"+behind, s, true)
			matchesAnywhere(t, "no byte", before+"?"+s[at:], s, false)
			matchesAnywhere(t, "no byte", before+"?"+behind, before+behind, false)
			matchesAnywhere(t, "two bytes", before+"?"+behind, before+"xy"+behind, false)
			matchesAnywhere(t, "one slash", "x"+before+"?"+behind+"x", "x"+before+"/"+behind+"x", false)
			matchesAnywhere(t, "two marks", before+"??"+behind, before+"xy"+behind, true)
			matchesAnywhere(t, "two marks", before+"??"+behind, before+"xyz"+behind, false)
			matchesAnywhere(t, "two marks and one byte", before+"??"+behind, s, false)
			if len(s) > 1 {
				matchesAnywhere(t, "another byte beside it", "?"+s[1:], "x"+s[1:len(s)-1]+"x", false)
				matchesAnywhere(t, "another byte beside it", s[:len(s)-1]+"?", "x"+s[1:len(s)-1]+"x", false)
			}
		}
		matchesAnywhere(t, "one mark more", strings.Repeat("?", len(s)+1), s, false)
		matchesAnywhere(t, "as many marks", strings.Repeat("?", len(s)), s, true)
	}
	lengths := []int{1, 2, 3, 4, 5, 6, 7, 8, 9, 10, 62, 63, 64, 65, 127, 128, 129, 191, 192, 193, 198, 199, 200}
	for _, n := range lengths {
		for _, m := range lengths {
			matchesAnywhere(t, fmt.Sprintf("%d marks, %d bytes", n, m), strings.Repeat("?", n), strings.Repeat("a", m), n == m)
			matchesAnywhere(t, fmt.Sprintf("%d marks behind a star, %d bytes", n-1, m), "*"+strings.Repeat("?", n-1), strings.Repeat("a", m), n-1 <= m)
			matchesAnywhere(t, fmt.Sprintf("%d marks ahead of a star, %d bytes", n-1, m), strings.Repeat("?", n-1)+"*", strings.Repeat("a", m), n-1 <= m)
		}
	}
}

// P13.1: `*` stands for none, one or several bytes, at each place.
func TestStars(t *testing.T) {
	t.Parallel()
	for _, s := range []string{"a", "ab", "abc", "abcdef", "aaaa", "abab", "a.b-c_", "...", ".a", "a.", "aab", "abb", "Ab0"} {
		for from := 0; from <= len(s); from++ {
			for to := from; to <= len(s); to++ {
				before, within, behind := s[:from], s[from:to], s[to:]
				for _, stars := range []string{"*", "**", "***", "*****"} {
					matchesAnywhere(t, "stars for "+within, before+stars+behind, s, true)
					matchesAnywhere(t, "stars, and one byte less", before+stars+behind+"x", s, false)
					matchesAnywhere(t, "stars, and one byte more ahead", "x"+before+stars+behind, s, false)
				}
				for _, mixed := range []string{"*?", "?*", "*?*", "**?", "?**"} {
					matchesAnywhere(t, mixed+" for "+within, before+mixed+behind, s, partByWords(before+mixed+behind, s))
					matchesAnywhere(t, mixed+" for one and more", before+mixed+behind, before+"x"+within+behind, true)
				}
				if from < to {
					matchesAnywhere(t, "a mark beside a star", before+"?*"+behind, s, true)
					matchesAnywhere(t, "a mark beside a star", before+"*?"+behind, s, true)
				}
				matchesAnywhere(t, "stars apart", before+"*"+within+"*"+behind, s, true)
				matchesAnywhere(t, "stars all over", "*"+before+"*"+within+"*"+behind+"*", s, true)
				matchesAnywhere(t, "stars all over, for one byte each", "*"+before+"*"+within+"*"+behind+"*", "x"+before+"x"+within+"x"+behind+"x", true)
				matchesAnywhere(t, "a star for another byte", before+"*"+behind, before+"x"+behind, true)
				matchesAnywhere(t, "a star for several bytes", before+"*"+behind, before+"-xyz.9"+behind, true)
				matchesAnywhere(t, "never for a slash", before+"a*a"+behind, before+"a/a"+behind, false)
				matchesAnywhere(t, "never for a slash", before+"a*a"+behind, before+"ax/xa"+behind, false)
			}
		}
	}
	for _, s := range []string{"a", "ab", "...", ".a", "-", strings.Repeat("a", 199), strings.Repeat("Z", 200)} {
		matchesAnywhere(t, "a star alone", "*", s, true)
		matchesAnywhere(t, "stars alone", "***", s, true)
		matchesAnywhere(t, "as many stars as may be", strings.Repeat("*", 200), s, true)
	}
}

// P13.1: what stands behind a star may be found too early, or too late.
func TestStarsThatEndLater(t *testing.T) {
	t.Parallel()
	for _, c := range []struct {
		pattern, path string
		want          bool
	}{
		{"*ab", "ab", true}, {"*ab", "abab", true}, {"*ab", "aab", true}, {"*ab", "abxab", true}, {"*ab", "aba", false}, {"*ab", "ababa", false}, {"*b", "bb", true}, {"*a", "aaab", false}, {"*a", "bbba", true}, {"*aab", "aaab", true}, {"*aab", "aabaaab", true}, {"*abc", "ababc", true}, {"*abac", "ababac", true}, {"*abcd", "abcabcabcd", true},
		{"a*a", "aa", true}, {"a*a", "aaa", true}, {"a*a", "abab", false}, {"a*a", "ababa", true}, {"a*ab", "aab", true}, {"a*ab", "ab", false}, {"a*ab", "ababab", true}, {"a*ab", "abababa", false},
		{"*ab*", "ab", true}, {"*ab*", "aab", true}, {"*ab*", "xaabax", true}, {"*ab*", "aaab", true}, {"*ab*", "abaa", true}, {"*ab*", "aaaa", false}, {"*ab*", "ba", false}, {"*ab*", "baba", true}, {"*abc*", "ababcab", true}, {"*abc*", "abacabxabcxab", true}, {"*abc*", "ababab", false}, {"*aab*", "aaaabaa", true},
		{"*a?c*", "abbacbabc", true}, {"*a?c*", "aabcab", true}, {"*a?c", "axcaxcx", false}, {"*a?c", "axcaxxaxc", true}, {"*a?c*d", "abdaacabcd", true}, {"*?a*", "a", false}, {"*?a*", "aa", true}, {"*?a?*", "aaa", true}, {"*?a?*", "aba", false}, {"a?*b", "ab", false}, {"a?*b", "abb", true}, {"a*?b", "ab", false}, {"a*?b", "axxb", true},
		{"*a*b", "ab", true}, {"*a*b", "aab", true}, {"*a*b", "abab", true}, {"*a*b", "abba", false}, {"*a*b", "bbab", true}, {"*a*b", "bbb", false}, {"*a*a", "aa", true}, {"*a*a", "a", false}, {"*a*a*", "aa", true}, {"*a*a*", "ab", false}, {"*a*a*", "babab", true}, {"*a*a*a*", "aa", false}, {"*a*a*a*", "aaa", true}, {"a*b*c", "abc", true}, {"a*b*c", "acbc", true}, {"a*b*c", "acb", false}, {"a*b*c", "axbxcxc", true}, {"a*b*c", "axcxbx", false}, {"a*b*c", "abcx", false}, {"*a*b*c*", "xaxbxcx", true}, {"*a*b*c*", "xaxcxbx", false}, {"*a*b*c*", "cbacb", false}, {"*a*b*c*", "cbabc", true},
		{"ab*ba", "aba", false}, {"ab*ba", "abba", true}, {"ab*ba", "abxba", true}, {"ab*ba", "ababa", true}, {"ab*ab", "ab", false}, {"ab*ab", "abab", true}, {"ab*b", "ab", false}, {"ab*b", "abb", true}, {"a*ab", "ab", false}, {"a*a", "a", false}, {"aa*aa", "aaa", false}, {"aa*aa", "aaaa", true}, {"aa*a", "aa", false}, {"a*aa", "aa", false}, {"a*b*ba", "abba", true}, {"a*b*ba", "aba", false}, {"ab*b*a", "aba", false}, {"ab*b*a", "abba", true}, {"abc*abc", "abcabc", true}, {"abc*abc", "abcab", false}, {"abc*bcd", "abcd", false}, {"a.*.b", "a.b", false}, {"a.*.b", "a..b", true}, {"*.txt", ".txt", true}, {"*.txt", "txt", false}, {"*.*", ".a", true}, {"*.*", "a.", true}, {"*.*", "ab", false}, {"*.*.*", "a.b", false}, {"*.*.*", "a..", true},
		{"**a", "a", true}, {"**a", "ba", true}, {"**a", "ab", false}, {"a**", "a", true}, {"a**", "ba", false}, {"a**b", "ab", true}, {"a**b", "aab", true}, {"a**b", "aba", false}, {"a**a", "a", false}, {"*?*", "a", true}, {"*??*", "a", false}, {"*??*", "ab", true}, {"*?*?*", "a", false}, {"*?*?*", "ab", true}, {"?*?", "a", false}, {"?*?", "ab", true}, {"?*?*?", "ab", false}, {"?*?*?", "abc", true}, {"?*a", "a", false}, {"?*a", "aa", true}, {"a*?", "a", false}, {"a*?", "aa", true}, {"*?a", "a", false}, {"*?a", "ba", true}, {"a?*", "a", false}, {"a?*", "ab", true},
	} {
		matchesAnywhere(t, "a star that ends later", c.pattern, c.path, c.want)
		if partByWords(c.pattern, c.path) != c.want {
			t.Errorf("by the chapter's words %q, %q is not %t", c.pattern, c.path, c.want)
		}
	}
}

// agree holds that Match answers what the chapter's words do, and what the library does, and tells whether the path is one of the pattern.
func agree(t *testing.T, what, pattern, s string) bool {
	t.Helper()
	want := byWords(pattern, s)
	if library := byLibrary(pattern, s); library != want {
		t.Errorf("%s: by the library %s, %s is %t", what, short(pattern), short(s), library)
	}
	if got := glob.Match(pattern, s); got != want {
		t.Errorf("%s: Match of %s and %s: %t", what, short(pattern), short(s), got)
	}
	return want
}

// P13.1: all short patterns and paths of the signs that tell, also those that may not be.
func TestShortPatternsAndPaths(t *testing.T) {
	t.Parallel()
	for what, c := range map[string]struct {
		pattern, path         string
		longPattern, longPath int
		least                 int
	}{
		"marks and two letters":   {"ab*?", "ab", 5, 6, 15000},
		"stars and two letters":   {"ab*", "ab", 7, 6, 20000},
		"marks and one letter":    {"a*?", "a", 8, 9, 20000},
		"marks and slashes":       {"a*?/", "ab/", 5, 5, 3000},
		"stars and slashes":       {"*/", "a/", 8, 8, 400},
		"marks and points":        {"a*?.", "a.", 5, 6, 15000},
		"points, slashes, stars":  {".*/", "a./", 6, 5, 500},
		"letters great and small": {"aA*", "aA", 5, 5, 2000},
		"what may be no path":     {"a*?", "a*?", 4, 4, 50},
		"what may not be":         {"a* /", "a /", 4, 4, 40},
	} {
		t.Run(what, func(t *testing.T) {
			t.Parallel()
			paths := spelledOf(c.path, c.longPath)
			fit := 0
			for _, pattern := range spelledOf(c.pattern, c.longPattern) {
				for _, s := range paths {
					if agree(t, what, pattern, s) {
						fit++
					}
				}
			}
			if fit < c.least {
				t.Errorf("%d paths are one of a pattern", fit)
			}
		})
	}
}

// randomPath is one that may be, of at most so many bytes, of a few letters.
func randomPath(r *rand.Rand, longest int, of string) string {
	for {
		b := make([]byte, 1+r.Intn(longest))
		for i := range b {
			b[i] = of[r.Intn(len(of))]
		}
		if pathMayBe(string(b)) {
			return string(b)
		}
	}
}

// masked is a pattern that a path is one of.
func masked(r *rand.Rand, s string, often int) string {
	var out strings.Builder
	for i := 0; i < len(s); i++ {
		switch {
		case s[i] == '/' || r.Intn(often) > 0:
			out.WriteByte(s[i])
		case r.Intn(3) == 0:
			out.WriteByte('?')
		case r.Intn(2) == 0:
			out.WriteByte('*')
			i--
			for i+1 < len(s) && s[i+1] != '/' && r.Intn(4) > 0 {
				i++
			}
			if i+1 < len(s) && s[i+1] != '/' {
				i++
				out.WriteByte(s[i])
			}
		default:
			out.WriteByte(s[i])
			out.WriteByte('*')
		}
	}
	return out.String()
}

// P13.1: random paths, with patterns that they are one of, and others that they are nearly one of.
func TestRandomPatterns(t *testing.T) {
	t.Parallel()
	r := rand.New(rand.NewSource(13))
	fit, not := 0, 0
	for n := range 6000 {
		of := []string{"ab", "abc/", "a.-_Z9/", inParts, "a/", "aaaab/"}[n%6]
		s := randomPath(r, []int{4, 12, 30, 80}[n%4], of)
		pattern := masked(r, s, 1+r.Intn(8))
		if !patternMayBe(pattern) {
			continue
		}
		if !agree(t, "made for it", pattern, s) || !byExpression(pattern, s) {
			t.Errorf("%s is not one of %s", short(s), short(pattern))
		}
		for range 6 {
			at := r.Intn(len(pattern))
			sign := "ab*?./"[r.Intn(6):][:1]
			near := pattern[:at] + sign + pattern[at+r.Intn(2):]
			is := agree(t, "nearly made for it", near, s)
			if patternMayBe(near) && byExpression(near, s) != is {
				t.Errorf("by an expression %s, %s is %t", short(near), short(s), !is)
			}
			if is {
				fit++
			} else {
				not++
			}
			agree(t, "two at random", masked(r, randomPath(r, 8, of), 2), s)
		}
	}
	if fit < 2000 || not < 5000 {
		t.Errorf("%d fit, %d do not", fit, not)
	}
}

// inAMoment holds that all that is done ends soon.
func inAMoment(t *testing.T, what string, do func()) {
	t.Helper()
	done := make(chan bool)
	go func() {
		defer close(done)
		do()
	}()
	select {
	case <-done:
	case <-time.After(30 * time.Second):
		t.Fatalf("%s: it does not end", what)
	}
}

// P1, P13.1: many stars that fit nowhere, or only at the end, take no long time.
func TestManyStars(t *testing.T) {
	t.Parallel()
	many := strings.Repeat("a", 200)
	for pattern, want := range map[string]bool{
		strings.Repeat("*a", 99) + "*b":                     false,
		strings.Repeat("*a", 99) + "b":                      false,
		"b" + strings.Repeat("*a", 99):                      false,
		strings.Repeat("a*", 99) + "b":                      false,
		strings.Repeat("*a", 50) + "b" + "*":                false,
		strings.Repeat("*a", 50) + "*b*a":                   false,
		strings.Repeat("**a", 60) + "*b":                    false,
		strings.Repeat("*?a", 60) + "*b":                    false,
		strings.Repeat("*?", 99) + "*b":                     false,
		strings.Repeat("?*", 99) + "b":                      false,
		strings.Repeat("*", 199) + "b":                      false,
		strings.Repeat("*a*", 60) + "b":                     false,
		strings.Repeat("*aaa", 30) + "*b":                   false,
		"*" + strings.Repeat("a", 99) + "b*":                false,
		"*" + strings.Repeat("a", 98) + "*" + "aab":         false,
		"*" + strings.Repeat("a*", 99):                      true,
		strings.Repeat("*a", 100):                           true,
		strings.Repeat("a*", 100):                           true,
		strings.Repeat("*", 200):                            true,
		strings.Repeat("*?", 100):                           true,
		"*" + strings.Repeat("a", 199):                      true,
		"*" + strings.Repeat("?", 199):                      true,
		strings.Repeat("a", 100) + strings.Repeat("*", 100): true,
	} {
		inAMoment(t, pattern, func() {
			matches(t, "many stars", pattern, many, want)
			agree(t, "many stars", pattern, many)
		})
	}
	for _, parts := range []int{2, 4, 10, 20} {
		length := 200/parts - 1
		part, mask := strings.Repeat("a", length), strings.Repeat("*a", length/2)[1:]+"*"
		paths := strings.Repeat(part+"/", parts-1) + part
		inAMoment(t, "in many parts", func() {
			matches(t, "many stars in many parts", strings.Repeat(mask+"/", parts-1)+mask, paths, true)
			matches(t, "many stars in many parts", strings.Repeat(mask+"/", parts-1)+mask[:len(mask)-1]+"b", paths, false)
			matches(t, "many stars in many parts", mask[:len(mask)-1]+"b"+strings.Repeat("/"+mask, parts-1), paths, false)
		})
	}
	inAMoment(t, "again and again", func() {
		for range 500 {
			agree(t, "again and again", strings.Repeat("*a", 99)+"*b", many)
		}
	})
}
