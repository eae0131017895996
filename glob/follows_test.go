package glob_test

import (
	"fmt"
	"math/rand"
	"slices"
	"strings"
	"testing"

	"imprimatur/api"
	"imprimatur/glob"
)

// P13.2: a path is one of itself.
func TestPathsAreOneOfThemselves(t *testing.T) {
	t.Parallel()
	r := rand.New(rand.NewSource(14))
	paths := keep(append(spelledOf("aB9.-_/", 5), spelledOf("a./", 8)...), pathMayBe)
	for range 5000 {
		paths = append(paths, randomPath(r, []int{5, 20, 60}[r.Intn(3)], inParts+"///"))
	}
	for n := 1; n <= 200; n++ {
		paths = append(paths, strings.Repeat("a", n), strings.Repeat(inParts, 4)[:n], withSlashes(n, "a"))
	}
	for _, s := range keep(paths, pathMayBe) {
		if !glob.Path(s) || !glob.Right(s) || !glob.Match(s, s) {
			t.Errorf("%s is not one of itself", short(s))
		}
		isAt(t, "itself", s, []string{s}, 0, api.OK)
		if len(s) < long {
			isAt(t, "itself behind others", s, []string{s + "-", "-" + s, s, s}, 2, api.OK)
		}
	}
	if len(paths) < 15000 {
		t.Errorf("%d paths", len(paths))
	}
}

// P13.2: no other path without marks has a path.
func TestPathsAreOneOfNoOther(t *testing.T) {
	t.Parallel()
	paths := keep(spelledOf("aA./", 5), pathMayBe)
	for _, pattern := range paths {
		for _, s := range paths {
			if glob.Match(pattern, s) != (pattern == s) {
				t.Errorf("Match of %q and %q: %t", pattern, s, pattern != s)
			}
		}
	}
	if len(paths) < 300 {
		t.Errorf("%d paths", len(paths))
	}
}

// P13.2: `*` between two rows of bytes has just those that begin and end so, and are long enough.
func TestOneStar(t *testing.T) {
	t.Parallel()
	for of, lengths := range map[string][2]int{"ab": {4, 9}, "a.": {4, 9}, "aA-": {3, 6}, "0a._": {2, 5}} {
		ends, parts := spelledOf(of, lengths[0]), spelledOf(of, lengths[1])
		fit := 0
		for _, begin := range ends {
			for _, end := range ends {
				pattern := begin + "*" + end
				for _, s := range parts {
					want := pathMayBe(s) && len(s) >= len(begin)+len(end) && strings.HasPrefix(s, begin) && strings.HasSuffix(s, end)
					if glob.Match(pattern, s) != want {
						t.Errorf("Match of %q and %q: %t", pattern, s, !want)
					}
					if want {
						fit++
					}
				}
			}
		}
		if fit < 5000 {
			t.Errorf("letters %q: %d fit", of, fit)
		}
	}
}

// P13.2: so it is where the rows are long.
func TestOneStarBetweenLongRows(t *testing.T) {
	t.Parallel()
	all := strings.Repeat("ab-9Z_.c", 25)
	for _, n := range []int{0, 1, 2, 50, 99, 100, 150, 198, 199} {
		begin := all[:n]
		for _, m := range []int{0, 1, 2, 49, 50, 99, 100, 101, 149, 198, 199} {
			end := all[200-m:]
			for _, between := range []int{0, 1, 2, 50, 99, 100, 198, 200} {
				s := begin + strings.Repeat("y", between) + end
				matches(t, "long rows", begin+"*"+end, s, n+1+m <= 200 && n+between+m <= 200 && s != "")
				if s != "" {
					matches(t, "long rows, and one byte more", begin+"*"+end, s+"y", m == 0 && n+1 <= 200 && n+between < 200)
					matches(t, "long rows, and one byte more ahead", begin+"*"+end, "y"+s, n == 0 && m+1 <= 200 && m+between < 200)
				}
			}
			if n > 0 && m > 0 && n+1+m <= 200 {
				matches(t, "too short for both", begin+"*"+begin[n-1:]+end, begin+end, false)
				matches(t, "too short for both", begin+end[:1]+"*"+end, begin+end, false)
			}
		}
	}
}

// R4: no call changes patterns that are handed in as one list, nor what stands behind them.
func TestListsStay(t *testing.T) {
	t.Parallel()
	for _, patterns := range rowsOf([]string{"b*", "a", "?", "*/a", "a/", ""}, 4) {
		for _, room := range []int{0, 1, 7} {
			list := append(make([]string, 0, len(patterns)+room), patterns...)
			for range room {
				list = append(list, "behind")
			}
			was := slices.Clone(list)
			for _, s := range []string{"a", "b", "b/a", "x", "", "a/", "*", "behind"} {
				_, _ = glob.Any(s, list[:len(patterns)]...)
			}
			if !slices.Equal(list, was) {
				t.Errorf("patterns %q, with room for %d: %q", patterns, room, list)
			}
		}
	}
}

// R1: no call keeps anything.
func TestNothingIsKept(t *testing.T) {
	t.Parallel()
	round := func() string {
		at, e := glob.Any("a/b", "x", "a", "?/*", "a/b")
		none, f := glob.Any("a/b", "x", "a")
		wrong, g := glob.Any("a/b", "a/b", "a/")
		return fmt.Sprint(at, e, none, f, wrong, g, glob.Match("a*/?", "ab/c"), glob.Match("a*/?", "ab/cd"), glob.Right("a*"), glob.Right("a//b"), glob.Path("a*"), glob.Path("a.b"))
	}
	const want = "2 0 0 36 0 1 true false true false false true"
	for range 3 {
		if got := round(); got != want {
			t.Errorf("%s, not %s", got, want)
		}
		for _, s := range spelledOf("a*?/.", 4) {
			glob.Path(s)
			glob.Right(s)
			glob.Match(s, "a/b")
			glob.Match("a*/?", s)
			_, _ = glob.Any(s, "a", s, "*")
			_, _ = glob.Any("a/b", s, "x", s)
		}
	}
}

// R1: calls side by side have nothing in common.
func TestCallsSideBySide(t *testing.T) {
	t.Parallel()
	for n := range 8 {
		t.Run(fmt.Sprint(n), func(t *testing.T) {
			t.Parallel()
			s := strings.Repeat(string(rune('a'+n)), n+1)
			for range 2000 {
				isAt(t, "side by side", s, []string{"x*", "*/*", s[1:] + "?", "*"}, 2, api.OK)
				matches(t, "side by side", "?"+s[1:]+"/*"+s, s+"/"+s, true)
			}
		})
	}
}

// P1: no call panics, whatever it is handed; each answers what the chapter says.
func FuzzAnyTexts(f *testing.F) {
	for _, pattern := range []string{"", "a", "*", "?", "a/*.txt", "a*b*c/?*", "..", "/", "*/", "\xff", "é", strings.Repeat("*a", 100), strings.Repeat("a", 201), "**?", ".*", "[a-c]", `\*`} {
		for _, s := range []string{"", "a", "a/b.txt", "abc/d", ".", "a/", "\x00", strings.Repeat("a", 200), "a.b-c_D9", "*"} {
			f.Add(pattern, s, "?")
			f.Add("a*", s, pattern)
		}
	}
	f.Fuzz(func(t *testing.T, pattern, s, other string) {
		may(t, "any text", pattern, pathMayBe(pattern), patternMayBe(pattern))
		may(t, "any text", s, pathMayBe(s), patternMayBe(s))
		is := agree(t, "any texts", pattern, s)
		if pathMayBe(s) != agree(t, "itself", s, s) {
			t.Errorf("%s is not one of itself", short(s))
		}
		if patternMayBe(pattern) && byExpression(pattern, s) != is {
			t.Errorf("by an expression %s, %s is %t", short(pattern), short(s), !is)
		}
		for _, patterns := range [][]string{{}, {pattern}, {other, pattern}, {pattern, other}, {other, pattern, other, s}, {s, pattern}} {
			at, e := anyByWords(s, patterns)
			isAt(t, "any texts", s, patterns, at, e)
		}
	})
}
