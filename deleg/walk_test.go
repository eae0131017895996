package deleg_test

import (
	"fmt"
	"slices"
	"strings"
	"testing"

	"imprimatur/api"
)

// row is of what is held.
func row(held ...api.Held) []api.Held { return held }

// wantsFirst holds that `targets` is wanted, and nobody is told who must have signed it.
func wantsFirst(t *testing.T, what, path string, held []api.Held) {
	t.Helper()
	comesTo(t, what, path, held, api.Walk{State: api.WWant, Want: "targets"})
}

// The chapter's example, P16.1.
func TestExample(t *testing.T) {
	t.Parallel()
	held := row(has("targets", on("a", "a/*")))
	wants(t, "the chapter's", "a/x", held, "targets", "a", "targets")
	findsNone(t, "another path", "b/x", held, "targets")
	finds(t, "with what was wanted", "a/x", append(held, has("a", files("a/x"))), "targets", "a")
	findsNone(t, "with what was wanted, of another file", "a/x", append(held, has("a", files("a/y"))), "targets", "a")
}

// P16.1: nothing is held, or nothing of `targets`.
func TestNothingHeld(t *testing.T) {
	t.Parallel()
	for _, path := range []string{"a", "a/x", "targets", "...", strings.Repeat("a", 200)} {
		wantsFirst(t, "nil", path, nil)
		wantsFirst(t, "empty", path, row())
		wantsFirst(t, "another one", path, row(has("one", files(path), on("two", "*"))))
		wantsFirst(t, "names that are nearly that", path, row(has("target", files(path)), has("targets-", files(path)), has("argets", files(path)), has("root", files(path))))
		wantsFirst(t, "one that hands on to others", path, row(has("root", last("one", "*", "*/*")), has("one", files(path))))
		wantsFirst(t, "many", path, someHeld(33)[1:])
	}
}

// P16.1: files of `targets` itself, at each place, though patterns fit, too.
func TestFilesOfTargets(t *testing.T) {
	t.Parallel()
	paths := []string{"a", "a/x", "a/x.y", "b", "c/d/e", strings.Repeat("z", 200)}
	for n := range len(paths) + 1 {
		for _, more := range [][]part{nil, {on("one", "*", "*/*", "*/*/*")}, {last("one", "*", "*/*", "*/*/*")}, {on("no", "q"), last("one", "*", "*/*", "*/*/*")}} {
			held := row(has("targets", append(more, files(paths[:n]...))...))
			for _, rest := range [][]api.Held{nil, row(has("one", files(paths...)))} {
				for _, path := range paths[:n] {
					finds(t, "a file of targets", path, append(held, rest...), "targets")
				}
				for _, path := range paths[n:] {
					switch {
					case more == nil:
						findsNone(t, "no file of targets", path, append(held, rest...), "targets")
					case rest == nil:
						wants(t, "no file of targets", path, held, "targets", "one", "targets")
					default:
						finds(t, "no file of targets", path, append(held, rest...), "targets", "one")
					}
				}
			}
		}
	}
	var many []string
	for i := range 32 {
		many = append(many, fmt.Sprintf("m/%02d", i))
	}
	for _, path := range many {
		finds(t, "one of 32", path, row(has("targets", files(many...))), "targets")
	}
}

// P16.1: a file is one of just that name.
func TestFilesOfOtherNames(t *testing.T) {
	t.Parallel()
	others := []string{"a/x", "a/xy0", "a/y", "A/xy", "a", "xy", "a/xY", "b/a/xy", "a/xy/b", "a.xy"}
	held := row(has("targets", files(others...)))
	findsNone(t, "names that are nearly that", "a/xy", held, "targets")
	for _, path := range others {
		finds(t, "each one", path, held, "targets")
	}
	for _, pattern := range []string{"a/*", "*/x?", "a/xy"} {
		findsNone(t, "a pattern is no file", "a/xy", row(has("targets", on("one", pattern)), has("one", files("a/x", "b"))), "targets", "one")
	}
}

// P16.1: nothing, where no one has the path or hands it on.
func TestNone(t *testing.T) {
	t.Parallel()
	for _, path := range []string{"a", "a/x", "a/x/y"} {
		findsNone(t, "no file, no deleg", path, row(has("targets")), "targets")
		findsNone(t, "the least", path, row(api.Held{Name: "targets", Meta: api.Meta{Kind: api.MTargets, Version: 1}}), "targets")
		findsNone(t, "no file that fits", path, row(has("targets", files("b", "c"))), "targets")
		findsNone(t, "no deleg that fits", path, row(has("targets", on("one", "b", "b/*"), last("two", "??")), has("one", files(path)), has("two", files(path))), "targets")
		findsNone(t, "others who are not handed on to", path, row(has("targets"), has("one", files(path)), has("two", last("one", "*"))), "targets")
		findsNone(t, "one who has not either", path, row(has("targets", on("one", path)), has("one", files("b"))), "targets", "one")
		findsNone(t, "two who have not either", path, row(has("targets", on("one", path), on("two", path)), has("one"), has("two", on("three", "b"))), "targets", "one", "two")
	}
}

// P16.1: a path that is handed on, twice, thrice, and found there.
func TestHandedOn(t *testing.T) {
	t.Parallel()
	held := row(
		has("targets", files("t"), on("one", "a/*"), on("two", "b/*", "c")),
		has("one", files("a/1"), on("three", "a/x*"), last("four", "a/y")),
		has("two", files("c", "b/2"), on("one", "b/?")),
		has("three", files("a/x", "a/xx"), on("five", "a/*")),
		has("four", files("a/z", "a/x")),
		has("five", files("a/xyz")),
	)
	finds(t, "handed on", "t", held, "targets")
	finds(t, "handed on", "a/1", held, "targets", "one")
	finds(t, "handed on", "a/x", held, "targets", "one", "three")
	finds(t, "handed on", "a/xx", held, "targets", "one", "three")
	finds(t, "handed on", "a/xyz", held, "targets", "one", "three", "five")
	finds(t, "handed on", "c", held, "targets", "two")
	finds(t, "handed on", "b/2", held, "targets", "two")
	findsNone(t, "handed on", "a/xy", held, "targets", "one", "three", "five")
	findsNone(t, "handed on", "a/y", held, "targets", "one", "four")
	findsNone(t, "handed on", "a/2", held, "targets", "one")
	findsNone(t, "handed on", "b/3", held, "targets", "two", "one")
	findsNone(t, "handed on", "b/33", held, "targets", "two")
	findsNone(t, "handed on", "t/t", held, "targets")
	wants(t, "handed on", "a/x", without(held, 3), "one", "three", "targets", "one")
	wants(t, "handed on", "a/y", without(held, 4), "one", "four", "targets", "one")
	wants(t, "handed on", "a/y", without(held, 1), "targets", "one", "targets")
	wants(t, "handed on", "b/3", without(held, 1), "two", "one", "targets", "two")
	wants(t, "handed on", "a/xy", without(held, 5), "three", "five", "targets", "one", "three")
	wantsFirst(t, "handed on", "a/x", without(held, 0))
}

// P16.1: a role that is found only behind others, which were asked in vain with all whom they hand on to.
func TestBehindOthers(t *testing.T) {
	t.Parallel()
	for n := range 16 {
		for _, below := range []bool{false, n < 15} {
			var parts []part
			held, seen := row(), []string{"targets"}
			for i := range n {
				name, next := fmt.Sprint("b", i), fmt.Sprint("n", i)
				parts = append(parts, on(name, "a/*"))
				seen = append(seen, name)
				if !below {
					held = append(held, has(name, files("b")))
					continue
				}
				held = append(held, has(name, on(next, "a/?")), has(next))
				seen = append(seen, next)
			}
			held = append(held, has("targets", append(parts, on("found", "*/x"))...))
			what := fmt.Sprintf("behind %d, with others below: %t", n, below)
			wants(t, what, "a/x", held, "targets", "found", seen...)
			finds(t, what, "a/x", append(held, has("found", files("a/x"))), append(seen, "found")...)
			findsNone(t, what, "a/x", append(held, has("found")), append(seen, "found")...)
			findsNone(t, what, "a/y", held, seen...)
		}
	}
}

// given is a row of delegs, one of a name each, that fit or not, and are Last or not.
func given(fit, lasts int, of ...string) []part {
	var out []part
	for i, name := range of {
		pattern, how := "b/*", on
		if fit>>i&1 == 1 {
			pattern = "a/*"
		}
		if lasts>>i&1 == 1 {
			how = last
		}
		out = append(out, how(name, pattern))
	}
	return out
}

// asksOf are those of such a row that are asked, as the chapter tells: those that fit, up to and with the first that is Last; and whether one was.
func asksOf(fit, lasts int, of ...string) ([]string, bool) {
	var out []string
	for i, name := range of {
		if fit>>i&1 == 0 {
			continue
		}
		if out = append(out, name); lasts>>i&1 == 1 {
			return out, true
		}
	}
	return out, false
}

// P16.1: of up to four delegs, all choices of those that fit and of those that are Last.
func TestWhichFitAndWhichAreLast(t *testing.T) {
	t.Parallel()
	of := []string{"d", "b", "a", "c"}
	for n := range len(of) + 1 {
		of := of[:n]
		for fit := range 1 << n {
			for lasts := range 1 << n {
				what := fmt.Sprintf("of %d fit %04b, Last %04b", n, fit, lasts)
				asked, _ := asksOf(fit, lasts, of...)
				held := row(has("targets", given(fit, lasts, of...)...))
				seen := []string{"targets"}
				for _, name := range asked {
					wants(t, what, "a/x", held, "targets", name, seen...)
					finds(t, what, "a/x", append(held, has(name, files("a/x"))), append(seen, name)...)
					held, seen = append(held, has(name)), append(seen, name)
				}
				findsNone(t, what, "a/x", held, seen...)
				for _, name := range of {
					if !slices.Contains(asked, name) {
						held = append(held, has(name, files("a/x")))
					}
				}
				findsNone(t, what+", all held", "a/x", held, seen...)
			}
		}
	}
}

// P16.1: roles that still wait in the row from before are asked later, behind those that are put ahead, and no more, if one of these is Last.
func TestThoseThatWait(t *testing.T) {
	t.Parallel()
	inner, outer := []string{"p", "q", "r"}, []string{"w", "v"}
	for fit := range 8 {
		for lasts := range 8 {
			for outerLasts := range 8 {
				what := fmt.Sprintf("fit %03b, Last %03b, around %03b", fit, lasts, outerLasts)
				around, _ := asksOf(7, outerLasts, "first", "w", "v")
				seen, isLast := asksOf(fit, lasts, inner...)
				if !isLast {
					seen = append(seen, around[1:]...)
				}
				seen = append([]string{"targets", "first"}, seen...)
				held := row(has("targets", given(7, outerLasts, "first", "w", "v")...), has("first", given(fit, lasts, inner...)...))
				for _, name := range slices.Concat(inner, outer) {
					held = append(held, has(name))
				}
				findsNone(t, what, "a/x", held, seen...)
				for i, name := range seen[2:] {
					at := slices.IndexFunc(held, func(h api.Held) bool { return h.Name == name })
					holder := "targets"
					if slices.Contains(inner, name) {
						holder = "first"
					}
					finds(t, what, "a/x", put(held, at, has(name, files("a/x"))), seen[:i+3]...)
					wants(t, what, "a/x", without(held, at), holder, name, seen[:i+2]...)
				}
			}
		}
	}
}

// P16.1: a Last one deep below ends all that wait, however far up they were put there; one that does not fit ends nothing.
func TestLastDeepBelow(t *testing.T) {
	t.Parallel()
	held := func(deep part) []api.Held {
		return row(
			has("targets", on("a", "a/*"), on("b", "a/*"), on("c", "*/*")),
			has("a", on("a-a", "*/x"), on("a-b", "*/x"), on("c", "b/b")),
			has("a-a", deep, on("a-a-b", "*/*")),
			has("a-b"), has("b"), has("a-a-a"), has("a-a-b"), has("c"),
		)
	}
	findsNone(t, "Last deep below", "a/x", held(last("a-a-a", "a/?")), "targets", "a", "a-a", "a-a-a")
	findsNone(t, "not Last", "a/x", held(on("a-a-a", "a/?")), "targets", "a", "a-a", "a-a-a", "a-a-b", "a-b", "b", "c")
	findsNone(t, "Last, and does not fit", "a/x", held(last("a-a-a", "a/y")), "targets", "a", "a-a", "a-a-b", "a-b", "b", "c")
	findsNone(t, "Last, of one that was seen", "a/x", held(last("a", "a/x")), "targets", "a", "a-a")
	findsNone(t, "not Last, of one that was seen", "a/x", held(on("a", "a/x")), "targets", "a", "a-a", "a-a-b", "a-b", "b", "c")
	findsNone(t, "Last, of one that waits", "a/x", held(last("b", "a/x")), "targets", "a", "a-a", "b")
	findsNone(t, "not Last, of one that waits", "a/x", held(on("c", "a/x")), "targets", "a", "a-a", "c", "a-a-b", "a-b", "b")
}

// P16.1: a Last one ends what waits when it is put into the row, not when it is asked; and what it hands on itself is asked.
func TestBehindALastOne(t *testing.T) {
	t.Parallel()
	held := row(has("targets", on("a", "*"), last("b", "*"), on("c", "*")), has("a", on("a-a", "*")), has("b", on("b-a", "*"), on("b-b", "*")), has("a-a"), has("b-a"), has("b-b"), has("c", files("x")))
	findsNone(t, "those of a Last one", "x", held, "targets", "a", "a-a", "b", "b-a", "b-b")
	finds(t, "ahead of a Last one", "x", put(held, 3, has("a-a", files("x"))), "targets", "a", "a-a")
	finds(t, "by a Last one", "x", put(held, 2, has("b", files("x"))), "targets", "a", "a-a", "b")
	finds(t, "behind a Last one", "x", put(held, 5, has("b-b", files("x"))), "targets", "a", "a-a", "b", "b-a", "b-b")
	findsNone(t, "a Last one ahead of it", "x", put(held, 1, has("a", last("a-a", "*"))), "targets", "a", "a-a")
	wants(t, "of a Last one", "x", without(held, 5), "b", "b-b", "targets", "a", "a-a", "b", "b-a")
}

// P16.1: several patterns of one deleg: one that fits is enough, at whatever place, and several are no more than one.
func TestPatternsOfOneDeleg(t *testing.T) {
	t.Parallel()
	for n := 1; n <= 8; n++ {
		for fit := range 1 << n {
			var patterns []string
			for i := range n {
				if fit>>i&1 == 1 {
					patterns = append(patterns, []string{"a/*", "*/x", "a/x", "?/?"}[i%4])
				} else {
					patterns = append(patterns, []string{"a", "*", "b/*", "a/x/*"}[i%4])
				}
			}
			what := fmt.Sprintf("patterns %q", patterns)
			for _, how := range []func(string, ...string) part{on, last} {
				held := row(has("targets", how("one", patterns...), on("two", "a/x")), has("two"))
				if fit == 0 {
					findsNone(t, what, "a/x", held, "targets", "two")
					continue
				}
				wants(t, what, "a/x", held, "targets", "one", "targets")
				finds(t, what, "a/x", append(held, has("one", files("a/x"))), "targets", "one")
			}
			if fit != 0 {
				findsNone(t, what, "a/x", row(has("targets", on("one", patterns...), on("two", "a/x")), has("one"), has("two")), "targets", "one", "two")
				findsNone(t, what, "a/x", row(has("targets", last("one", patterns...), on("two", "a/x")), has("one"), has("two")), "targets", "one")
			}
		}
	}
}

// P16.1: one that was seen is passed over: a role that hands on to itself, two that do to each other, rounds of them.
func TestRounds(t *testing.T) {
	t.Parallel()
	itself := row(has("targets", on("a", "*"), on("b", "*")), has("a", on("a", "*"), on("a-a", "*")), has("a-a"), has("b"))
	findsNone(t, "itself", "x", itself, "targets", "a", "a-a", "b")
	wants(t, "itself", "x", without(itself, 2), "a", "a-a", "targets", "a")
	findsNone(t, "itself, Last", "x", put(itself, 1, has("a", last("a", "*"), on("a-a", "*"))), "targets", "a")
	each := row(has("targets", on("a", "*"), on("c", "*")), has("a", on("b", "*")), has("b", on("a", "*")), has("c"))
	findsNone(t, "each other", "x", each, "targets", "a", "b", "c")
	findsNone(t, "each other, both asked", "x", put(each, 0, has("targets", on("b", "*"), on("a", "*"), on("c", "*"))), "targets", "b", "a", "c")
	findsNone(t, "each other, Last", "x", put(each, 2, has("b", last("a", "*"))), "targets", "a", "b")
	wants(t, "each other, and one behind", "x", without(each, 3), "targets", "c", "targets", "a", "b")
	for n := 1; n < 20; n++ {
		held, seen := row(has("targets", on("r0", "*"), on("end", "*"))), []string{"targets"}
		for i := range n {
			name, next := fmt.Sprint("r", i), fmt.Sprint("r", (i+1)%n)
			held, seen = append(held, has(name, on(next, "?"))), append(seen, name)
		}
		what := fmt.Sprint("a round of ", n)
		wants(t, what, "x", held, "targets", "end", seen...)
		finds(t, what, "x", append(held, has("end", files("x"))), append(seen, "end")...)
	}
}

// P16.1: one that is handed on to by two is passed over the second time, and not asked at the second one's place.
func TestHandedOnToByTwo(t *testing.T) {
	t.Parallel()
	held := row(has("targets", on("a", "*"), on("b", "*"), on("c", "*")), has("a", on("d", "*")), has("b", on("d", "*"), on("e", "*")), has("c", on("e", "*"), on("a", "*")), has("d", on("f", "*")), has("e"), has("f"))
	findsNone(t, "by two", "x", held, "targets", "a", "d", "f", "b", "e", "c")
	findsNone(t, "by two, the later one first", "x", put(held, 0, has("targets", on("c", "*"), on("b", "*"), on("a", "*"))), "targets", "c", "e", "a", "d", "f", "b")
	findsNone(t, "put ahead, though it waits", "x", row(has("targets", on("a", "*"), on("b", "*"), on("c", "*")), has("a", on("c", "*")), has("b"), has("c")), "targets", "a", "c", "b")
	findsNone(t, "by two, Last the second time", "x", put(held, 2, has("b", last("d", "*"), on("e", "*"))), "targets", "a", "d", "f", "b")
}

// P16.1: who must have signed what is wanted is told by the deleg that put it into the row where it stands first.
func TestWantedByTwo(t *testing.T) {
	t.Parallel()
	wants(t, "put ahead of where it waits", "x", row(has("targets", on("a", "*"), on("c", "*")), has("a", on("c", "*"))), "a", "c", "targets", "a")
	wants(t, "where it waits", "x", row(has("targets", on("a", "*"), on("c", "*")), has("a", on("c", "y"))), "targets", "c", "targets", "a")
	wants(t, "by the first one of two", "x", row(has("targets", on("a", "*"), on("b", "*")), has("a", on("c", "*")), has("b", on("c", "*"))), "a", "c", "targets", "a")
	wants(t, "by the second one of two", "x", row(has("targets", on("b", "*"), on("a", "*")), has("a", on("c", "*")), has("b", on("c", "*"))), "b", "c", "targets", "b")
	wants(t, "by the one below", "x", row(has("targets", on("a", "*"), on("c", "*")), has("a", on("b", "*"), on("c", "*")), has("b", on("c", "*"))), "b", "c", "targets", "a", "b")
	wants(t, "by the one above", "x", row(has("targets", on("a", "*"), on("c", "*")), has("a", on("b", "*"), on("c", "*")), has("b", on("c", "y"))), "a", "c", "targets", "a", "b")
	wants(t, "by a Last one", "x", row(has("targets", on("a", "*"), on("c", "*")), has("a", last("c", "*"))), "a", "c", "targets", "a")
	wants(t, "by no one else who has a deleg of it", "x", row(has("z", on("c", "*")), has("targets", on("b", "y"), on("c", "*")), has("b", on("c", "*"))), "targets", "c", "targets")
}

// P16.1: of what is wanted, all of the Role and all of the Keys are told, as they stand there.
func TestWhoMustHaveSigned(t *testing.T) {
	t.Parallel()
	great := greatest("targets")
	path := "15/7/" + strings.Repeat("x", 195)
	want := great.Meta.Delegs[15]
	comesTo(t, "the most", path, row(great), api.Walk{State: api.WWant, Seen: []string{"targets"}, Want: want.Name, Role: want.Role, Keys: great.Meta.Keys})
	for _, n := range []int{0, 1, 2, 15} {
		for _, need := range []int{1, 7, 16} {
			h := changed(great, func(m *api.Meta) { m.Keys, m.Delegs[15].Role.Need = m.Keys[:n], need })
			comesTo(t, "less Keys", path, row(h), api.Walk{State: api.WWant, Seen: []string{"targets"}, Want: want.Name, Role: h.Meta.Delegs[15].Role, Keys: h.Meta.Keys})
		}
	}
	none := changed(has("targets", on("a", "*")), func(m *api.Meta) { m.Keys = nil })
	comesTo(t, "no Keys", "x", row(none), api.Walk{State: api.WWant, Seen: []string{"targets"}, Want: "a", Role: roleOf("targets", "a")})
}

// P16.1: of what is found, all of the file is told.
func TestWhichFile(t *testing.T) {
	t.Parallel()
	for _, f := range []api.File{{Name: "a/x", Sum: summed("")}, {Name: "a/x", Size: 65536, Sum: strings.Repeat("\xff", 32)}, {Name: "a/x", Size: 1, Sum: strings.Repeat("\x00", 32)}} {
		for _, name := range []string{"targets", "one"} {
			held := row(has("targets", on("one", "a/*")), has("one"))
			at := slices.Index(namesOf(held), name)
			held[at] = changed(held[at], func(m *api.Meta) {
				m.Files = []api.File{{Name: "a/w", Size: 7, Sum: summed("w")}, f, {Name: "a/y", Size: 9, Sum: summed("y")}}
			})
			comesTo(t, "a file", "a/x", held, api.Walk{State: api.WFound, File: f, By: name, Seen: namesOf(held)[:at+1]})
		}
	}
}
