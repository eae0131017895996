package glob_test

import (
	"fmt"
	"slices"
	"strings"
	"testing"

	"imprimatur/api"
)

// P13.1: known answers.
func TestAny(t *testing.T) {
	t.Parallel()
	for _, c := range []struct {
		path     string
		patterns []string
		at       int
		e        api.Errno
	}{
		{"a/b.txt", []string{"a/*.txt"}, 0, api.OK},
		{"a/b/c.txt", []string{"a/*.txt"}, 0, api.ErrPath},
		{"a/b/c.txt", []string{"a/*.txt", "a/*/*.txt"}, 1, api.OK},

		{"a", nil, 0, api.ErrPath},
		{"a", []string{}, 0, api.ErrPath},
		{"a/b/c", nil, 0, api.ErrPath},
		{"", nil, 0, api.ErrArg},
		{"", []string{}, 0, api.ErrArg},
		{".", nil, 0, api.ErrArg},
		{"..", nil, 0, api.ErrArg},
		{"a/", nil, 0, api.ErrArg},
		{"*", nil, 0, api.ErrArg},
		{"a b", nil, 0, api.ErrArg},

		{"b", []string{"b", "x", "y"}, 0, api.OK},
		{"b", []string{"x", "b", "y"}, 1, api.OK},
		{"b", []string{"x", "y", "b"}, 2, api.OK},
		{"b", []string{"x", "y", "z"}, 0, api.ErrPath},
		{"b", []string{"b", "b", "b"}, 0, api.OK},
		{"b", []string{"x", "b", "b"}, 1, api.OK},
		{"b", []string{"x", "?", "b", "*"}, 1, api.OK},
		{"b", []string{"x", "*", "b", "?"}, 1, api.OK},
		{"b", []string{"x", "??", "*/*", "b*", "?", "*"}, 3, api.OK},
		{"b", []string{"B", "b/b", "bb", "a*", "*b?", "*?b"}, 0, api.ErrPath},
		{"a/x", []string{"a", "x", "a/y", "*", "a/?", "a/x"}, 4, api.OK},

		{"b", []string{""}, 0, api.ErrArg},
		{"b", []string{"", "b"}, 0, api.ErrArg},
		{"b", []string{"b", ""}, 0, api.ErrArg},
		{"b", []string{"b", "*", "b/"}, 0, api.ErrArg},
		{"b", []string{"b", "..", "*"}, 0, api.ErrArg},
		{"b", []string{".", "b", "*"}, 0, api.ErrArg},
		{"b", []string{"x", "b", "[b]", "b"}, 0, api.ErrArg},
		{"b", []string{"x", "y", "/"}, 0, api.ErrArg},
		{"b", []string{"x", "b", strings.Repeat("*", 201)}, 0, api.ErrArg},
		{"b", []string{"x", "b", strings.Repeat("*", 200)}, 1, api.OK},

		{"b*", []string{"b*"}, 0, api.ErrArg},
		{"?", []string{"?"}, 0, api.ErrArg},
		{"", []string{"*"}, 0, api.ErrArg},
		{"", []string{""}, 0, api.ErrArg},
		{"..", []string{"x", "*", "??"}, 0, api.ErrArg},
		{"a//b", []string{"*/*/*", "*"}, 0, api.ErrArg},
		{strings.Repeat("a", 201), []string{"x", "*"}, 0, api.ErrArg},
		{strings.Repeat("a", 200), []string{"x", "*"}, 1, api.OK},
	} {
		isAt(t, "a known one", c.path, c.patterns, c.at, c.e)
	}
}

// rowsOf are all rows of at most so many of these.
func rowsOf(of []string, longest int) [][]string {
	out := [][]string{nil}
	for from, n := 0, 0; n < longest; n++ {
		to := len(out)
		for _, head := range out[from:to] {
			for _, one := range of {
				out = append(out, append(slices.Clone(head), one))
			}
		}
		from = to
	}
	return out
}

// anyByWords is what the chapter says of Any.
func anyByWords(s string, patterns []string) (int, api.Errno) {
	for _, pattern := range patterns {
		if !patternMayBe(pattern) {
			return 0, api.ErrArg
		}
	}
	if !pathMayBe(s) {
		return 0, api.ErrArg
	}
	for at, pattern := range patterns {
		if byWords(pattern, s) {
			return at, api.OK
		}
	}
	return 0, api.ErrPath
}

// P13.1: all rows of a few patterns, such as fit, do not, and may not be, at all places.
func TestAnyOfAllRows(t *testing.T) {
	t.Parallel()
	met := map[string]int{}
	for _, patterns := range rowsOf([]string{"a/b", "a/*", "?/b", "*", "x/*", "a/*/c", "", "a//b", "a/.", "a/b "}, 4) {
		for _, s := range []string{"a/b", "x/y", "a", "a/b/c", "q/q", "", "a/", "a/..", "a/*", "*", "a b"} {
			at, e := anyByWords(s, patterns)
			isAt(t, "a row", s, patterns, at, e)
			met[fmt.Sprint(at, " ", e)]++
		}
	}
	for _, answer := range []string{"0 0", "1 0", "2 0", "3 0", fmt.Sprint("0 ", api.ErrArg), fmt.Sprint("0 ", api.ErrPath)} {
		if met[answer] < 100 {
			t.Errorf("%d answers are %s", met[answer], answer)
		}
	}
	if len(met) != 6 {
		t.Errorf("answers: %v", met)
	}
}

// P13.1: among many patterns.
func TestAnyOfMany(t *testing.T) {
	t.Parallel()
	for _, n := range []int{1, 2, 3, 10, 16, 17, 32, 33, 64, 65, 300, 2001} {
		var not []string
		for i := range n {
			not = append(not, fmt.Sprintf("a/%d*", i), fmt.Sprintf("*/b/%d?", i))
		}
		what := fmt.Sprintf("among %d", len(not))
		isAt(t, what, "a/b", not, 0, api.ErrPath)
		isAt(t, what, "a/b/", not, 0, api.ErrArg)
		for _, at := range []int{0, 1, n / 2, n, 2*n - 2, 2*n - 1, 2 * n} {
			isAt(t, what+", one fits", "a/b", slices.Insert(slices.Clone(not), at, "a/b"), at, api.OK)
			isAt(t, what+", all from one on fit", "a/b", slices.Concat(not[:at], slices.Repeat([]string{"a/*"}, 2*n-at+1)), at, api.OK)
			isAt(t, what+", one may not be", "a/b", slices.Insert(slices.Clone(not), at, "a/b/"), 0, api.ErrArg)
			isAt(t, what+", one that fits, one that may not be", "a/b", slices.Concat([]string{"a/b"}, not[:at], []string{"a/ "}, not[at:]), 0, api.ErrArg)
			isAt(t, what+", one that may not be, one that fits", "a/b", slices.Concat(not[:at], []string{"../b"}, not[at:], []string{"a/b"}), 0, api.ErrArg)
		}
	}
	wide := slices.Repeat([]string{strings.Repeat("*a", 100)}, 3000)
	inAMoment(t, "many stars in many patterns", func() {
		isAt(t, "many stars", strings.Repeat("a", 199)+"b", wide, 0, api.ErrPath)
		isAt(t, "many stars", strings.Repeat("a", 200), wide, 0, api.OK)
	})
}
