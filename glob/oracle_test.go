package glob_test

import (
	"fmt"
	"io/fs"
	"path"
	"regexp"
	"slices"
	"strings"
	"testing"

	"imprimatur/api"
	"imprimatur/glob"
)

const (
	long    = 200 // bytes of a path or pattern
	letters = "ABCDEFGHIJKLMNOPQRSTUVWXYZabcdefghijklmnopqrstuvwxyz"
	digits  = "0123456789"
	inParts = letters + digits + "_-."
	marks   = "*?"
)

// wellMade reckons whether a text may be with these bytes in its parts; what its parts may not be is the library's rule for names of files.
func wellMade(s, these string) bool {
	return len(s) <= long && s != "." && fs.ValidPath(s) && strings.Trim(s, these+"/") == ""
}

func pathMayBe(s string) bool {
	return wellMade(s, inParts)
}

func patternMayBe(s string) bool {
	return wellMade(s, inParts+marks)
}

// byWords reckons whether a path is one of a pattern, as the chapter says it.
func byWords(pattern, s string) bool {
	if !patternMayBe(pattern) || !pathMayBe(s) {
		return false
	}
	return slices.EqualFunc(strings.Split(pattern, "/"), strings.Split(s, "/"), partByWords)
}

// partByWords reckons for each beginning of the pattern's part of which beginnings of the part it is all.
func partByWords(mask, part string) bool {
	fits := make([]bool, len(part)+1)
	fits[0] = true
	for _, m := range []byte(mask) {
		next := make([]bool, len(part)+1)
		for n := range next {
			switch {
			case m == '*':
				next[n] = fits[n] || n > 0 && next[n-1]
			case n > 0:
				next[n] = fits[n-1] && (m == '?' || m == part[n-1])
			}
		}
		fits = next
	}
	return fits[len(part)]
}

// byLibrary asks the library's own patterns.
func byLibrary(pattern, s string) bool {
	is, err := path.Match(pattern, s)
	return err == nil && is && patternMayBe(pattern) && pathMayBe(s)
}

// byExpression asks an expression that is made of the pattern.
func byExpression(pattern, s string) bool {
	made := strings.NewReplacer(`\*`, `[^/]*`, `\?`, `[^/]`).Replace(regexp.QuoteMeta(pattern))
	return patternMayBe(pattern) && pathMayBe(s) && regexp.MustCompile(`\A(?s:`+made+`)\z`).MatchString(s)
}

// short is what a test tells of a text.
func short(s string) string {
	return fmt.Sprintf("%.220q (%d bytes)", s, len(s))
}

// may holds whether a text may be a path, and a pattern.
func may(t *testing.T, what, s string, asPath, asPattern bool) {
	t.Helper()
	if got := glob.Path(s); got != asPath {
		t.Errorf("%s: Path of %s: %t", what, short(s), got)
	}
	if got := glob.Right(s); got != asPattern {
		t.Errorf("%s: Right of %s: %t", what, short(s), got)
	}
}

// matches holds what Match answers, and Any of this pattern alone.
func matches(t *testing.T, what, pattern, s string, want bool) {
	t.Helper()
	if got := glob.Match(pattern, s); got != want {
		t.Errorf("%s: Match of %s and %s: %t", what, short(pattern), short(s), got)
	}
	wantErr := api.OK
	switch {
	case !patternMayBe(pattern) || !pathMayBe(s):
		wantErr = api.ErrArg
	case !want:
		wantErr = api.ErrPath
	}
	isAt(t, what, s, []string{pattern}, 0, wantErr)
}

// isAt holds what Any answers.
func isAt(t *testing.T, what, s string, patterns []string, want int, wantErr api.Errno) {
	t.Helper()
	if got, e := glob.Any(s, patterns...); got != want || e != wantErr {
		t.Errorf("%s: Any of %s and %d patterns, %.200q: %d, %d, not %d, %d", what, short(s), len(patterns), patterns, got, e, want, wantErr)
	}
}

// matchesAnywhere holds what Match answers of a text and a pattern alone, and as parts among others, as long as that is not too long.
func matchesAnywhere(t *testing.T, what, pattern, s string, want bool) {
	t.Helper()
	matches(t, what, pattern, s, want)
	if len(pattern) > long-8 || len(s) > long-8 {
		return
	}
	matches(t, what+", the first part", pattern+"/z", s+"/z", want)
	matches(t, what+", the last part", "z/"+pattern, "z/"+s, want)
	matches(t, what+", a middle part", "z/"+pattern+"/z", "z/"+s+"/z", want)
	matches(t, what+", behind a star", "*/"+pattern, "yz/"+s, want)
	matches(t, what+", ahead of a star", pattern+"/*", s+"/yz", want)
	matches(t, what+", between marks", "?*/"+pattern+"/??", "y/"+s+"/yz", want)
	matches(t, what+", twice", pattern+"/"+pattern, s+"/"+s, want && len(pattern) < long/2 && len(s) < long/2)
	matches(t, what+", beside another part", pattern+"/z", s+"/y", false)
	matches(t, what+", behind another part", "z/"+pattern, "y/"+s, false)
}

// spelledOf are all texts of at most so many of these letters, the shortest first.
func spelledOf(of string, longest int) []string {
	out := []string{""}
	for from, n := 0, 0; n < longest; n++ {
		to := len(out)
		for _, head := range out[from:to] {
			for i := range len(of) {
				out = append(out, head+of[i:i+1])
			}
		}
		from = to
	}
	return out
}

// keep are those texts that may be so.
func keep(list []string, may func(string) bool) []string {
	var out []string
	for _, s := range list {
		if may(s) {
			out = append(out, s)
		}
	}
	return out
}
