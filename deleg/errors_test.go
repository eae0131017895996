package deleg_test

import (
	"fmt"
	"slices"
	"strings"
	"testing"

	"imprimatur/api"
)

// wrongPaths are such as may not be.
func wrongPaths() []string {
	return []string{
		"", "/", "//", "a/", "/a", "a//b", "a/b/", ".", "..", "./a", "a/.", "a/./b", "../a", "a/..", "a/../b",
		"*", "a/*", "a*", "?", "a/?", "a b", " ", "a/ ", "a\n", "\x00", "a\x00b", "a\\b", "a:b", "a+b", "[a]", "é", "\xff", "a~",
		strings.Repeat("a", 201), strings.Repeat("a", 202), strings.Repeat("a/", 100) + "a", strings.Repeat("*", 200), strings.Repeat("a", 1<<20), strings.Repeat("a/", 1<<19) + "a",
	}
}

// wrongRows are such as may not be.
func wrongRows() map[string][]api.Held {
	out := map[string][]api.Held{
		"33":                     someHeld(33),
		"nothings":               make([]api.Held, 40),
		"a name twice":           row(has("targets", files("a/x")), has("a"), has("a")),
		"targets twice":          row(has("targets", files("a/x")), has("targets", files("a/x"))),
		"a name that may not be": row(has("targets", files("a/x")), has("")),
		"a great letter":         row(has("targets", files("a/x")), has("A")),
	}
	for what, m := range wrongMetas() {
		out["of targets: "+what] = row(api.Held{Name: "targets", Meta: m})
		out["of another one: "+what] = row(has("targets", files("a/x")), api.Held{Name: "other", Meta: m})
		out["of one that is asked: "+what] = row(api.Held{Name: "one", Meta: m}, has("targets", on("one", "*/*")))
	}
	return out
}

// P16.1: a path that may not be, whatever is held.
func TestPathsThatMayNotBe(t *testing.T) {
	t.Parallel()
	for _, path := range wrongPaths() {
		for what, held := range map[string][]api.Held{
			"nothing":     nil,
			"empty":       row(),
			"a file":      row(has("targets", files("a", "a/b", "b"))),
			"all to one":  row(has("targets", on("one", "*", "*/*", "*/*/*")), has("one", files("a/x"))),
			"as wide":     row(has("targets", last("one", "?", "??", "*/?", strings.Repeat("*", 200)))),
			"many":        someHeld(32),
			"no targets":  row(has("one")),
			"a long file": row(has("targets", files(strings.Repeat("a", 200)))),
		} {
			fails(t, what, path, held)
		}
	}
}

// P16.1: paths just as long as they may be, and such as are nearly none.
func TestPathsThatMayBe(t *testing.T) {
	t.Parallel()
	for _, path := range []string{"a", "Z", "0", "-", "_", "...", ".a", "a.", "a/...", "a/b/c/d/e/f", "targets", strings.Repeat("a", 199), strings.Repeat("a", 200), strings.Repeat("a/", 99) + "aa", strings.Repeat("a/", 99) + "a"} {
		pattern := strings.Repeat("*/", strings.Count(path, "/")) + "*"
		wantsFirst(t, "nothing", path, nil)
		finds(t, "its file", path, row(has("targets", files(path))), "targets")
		wants(t, "its pattern", path, row(has("targets", on("one", pattern))), "targets", "one", "targets")
		wants(t, "itself a pattern", path, row(has("targets", on("one", path))), "targets", "one", "targets")
		findsNone(t, "no pattern of it", path, row(has("targets", last("one", "none/of/it"))), "targets")
	}
}

// P16.1: a row that may not be, though the path is found ahead of what is wrong.
func TestRowsThatMayNotBe(t *testing.T) {
	t.Parallel()
	for what, held := range wrongRows() {
		back := slices.Clone(held)
		slices.Reverse(back)
		for _, path := range []string{"a", "a/x", "b/c", "f", "no/such/file"} {
			fails(t, what, path, held)
			fails(t, what+", the last one first", path, back)
		}
		isRight(t, what, held, false)
		for i, path := range wrongPaths() {
			fails(t, fmt.Sprint(what, ", and path ", i), path, held)
		}
	}
}
