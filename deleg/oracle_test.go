package deleg_test

import (
	librarypath "path"
	"regexp"
	"slices"
	"strings"
	"testing"

	"imprimatur/api"
	"imprimatur/deleg"
	"imprimatur/meta"
)

var (
	names = regexp.MustCompile(`\A[a-z0-9-]{1,32}\z`)
	signs = regexp.MustCompile(`\A[A-Za-z0-9._/-]{1,200}\z`)
	empty = regexp.MustCompile(`(\A|/)\.{0,2}(/|\z)`)
)

func pathMayBe(s string) bool {
	return signs.MatchString(s) && !empty.MatchString(s)
}

// isOne is what chapter 13 says of a path and a pattern that may be, by the library, whose marks are the same where there are no others than these two.
func isOne(pattern, path string) bool {
	fits, err := librarypath.Match(pattern, path)
	return fits && err == nil
}

// rowMayBe is what the chapter says of a row of held metadata.
func rowMayBe(held []api.Held) bool {
	var all []string
	for _, h := range held {
		if !names.MatchString(h.Name) || !meta.Right(h.Meta) || h.Meta.Kind != api.MTargets {
			return false
		}
		all = append(all, h.Name)
	}
	slices.Sort(all)
	return len(held) <= most && len(slices.Compact(all)) == len(held)
}

// search is a walk by calls within calls: whom a role hands a path on to is asked within the call for that role, so what waits in the chapter's row waits in the calls around.
type search struct {
	path string
	held []api.Held
	walk api.Walk
}

// ask tells whether the walk is over.
func (s *search) ask(name string, r api.Role, keys []api.Key) bool {
	if len(s.walk.Seen) == most {
		return true
	}
	if slices.Contains(s.walk.Seen, name) {
		return false
	}
	for _, h := range s.held {
		if h.Name == name {
			s.walk.Seen = append(s.walk.Seen, name)
			return s.has(h) || s.handsOn(h.Meta)
		}
	}
	s.walk.State, s.walk.Want, s.walk.Role, s.walk.Keys = api.WWant, name, r, keys
	return true
}

func (s *search) has(h api.Held) bool {
	for _, f := range h.Meta.Files {
		if f.Name == s.path {
			s.walk.State, s.walk.File, s.walk.By = api.WFound, f, h.Name
			return true
		}
	}
	return false
}

func (s *search) handsOn(m api.Meta) bool {
	for _, d := range m.Delegs {
		if !slices.ContainsFunc(d.Paths, func(pattern string) bool { return isOne(pattern, s.path) }) {
			continue
		}
		if s.ask(d.Name, d.Role, m.Keys) || d.Last {
			return true
		}
	}
	return false
}

// walked is what the chapter says of Walk.
func walked(path string, held []api.Held) (api.Walk, api.Errno) {
	if !pathMayBe(path) || !rowMayBe(held) {
		return api.Walk{}, api.ErrArg
	}
	s := search{path: path, held: held, walk: api.Walk{State: api.WNone}}
	s.ask("targets", api.Role{}, nil)
	return s.walk, api.OK
}

// same tells whether two walks are the same in all they have, where a nil list counts as an empty one.
func same(a, b api.Walk) bool {
	return a.State == b.State && a.File == b.File && a.By == b.By && slices.Equal(a.Seen, b.Seen) &&
		a.Want == b.Want && a.Role.Need == b.Role.Need && slices.Equal(a.Role.Ids, b.Role.Ids) && slices.Equal(a.Keys, b.Keys)
}

// agrees holds that Right and Walk answer what the chapter says, and tells what Walk answered.
func agrees(t *testing.T, what, path string, held []api.Held) (api.Walk, api.Errno) {
	t.Helper()
	if got := deleg.Right(held); got != rowMayBe(held) {
		t.Errorf("%s: Right of %d: %t", what, len(held), got)
	}
	want, wantErr := walked(path, held)
	got, e := deleg.Walk(path, held)
	if !same(got, want) || e != wantErr {
		t.Errorf("%s: Walk of %.300q through %q: %+v, %d, not %+v, %d", what, path, namesOf(held), got, e, want, wantErr)
	}
	return got, e
}

func namesOf(held []api.Held) []string {
	var out []string
	for _, h := range held {
		out = append(out, h.Name)
	}
	return out
}

// comesTo holds that a walk is just this one, whatever else is held and wherever, and that it goes on from what it saw.
func comesTo(t *testing.T, what, path string, held []api.Held, want api.Walk) {
	t.Helper()
	if got, e := agrees(t, what, path, held); !same(got, want) || e != api.OK {
		t.Errorf("%s: Walk of %q: %+v, %d, not %+v", what, path, got, e, want)
	}
	follows(t, what, path, held)
}

// finds, findsNone and wants hold what a walk comes to, as samples' metadata has it, and which roles were seen.

func finds(t *testing.T, what, path string, held []api.Held, seen ...string) {
	t.Helper()
	by := seen[len(seen)-1]
	comesTo(t, what, path, held, api.Walk{State: api.WFound, File: fileOf(by, path), By: by, Seen: seen})
}

func findsNone(t *testing.T, what, path string, held []api.Held, seen ...string) {
	t.Helper()
	comesTo(t, what, path, held, api.Walk{State: api.WNone, Seen: seen})
}

func wants(t *testing.T, what, path string, held []api.Held, holder, name string, seen ...string) {
	t.Helper()
	comesTo(t, what, path, held, api.Walk{State: api.WWant, Want: name, Role: roleOf(holder, name), Keys: keysOf(holder), Seen: seen})
}

// fails holds that there is an error, and nothing beside it.
func fails(t *testing.T, what, path string, held []api.Held) {
	t.Helper()
	if got, e := agrees(t, what, path, held); !same(got, api.Walk{}) || e != api.ErrArg {
		t.Errorf("%s: Walk of %.300q through %d: %+v, %d, not ErrArg", what, path, len(held), got, e)
	}
}

// isRight holds whether a row may be; Walk of a path that may be tells it, too.
func isRight(t *testing.T, what string, held []api.Held, may bool) {
	t.Helper()
	if deleg.Right(held) != may || rowMayBe(held) != may {
		t.Errorf("%s: Right of %d is not %t: %q", what, len(held), may, namesOf(held))
	}
	if _, e := agrees(t, what, "a/x", held); (e == api.OK) != may {
		t.Errorf("%s: Walk through %d: %d", what, len(held), e)
	}
}

// The words of this file lead where the chapters say.
func TestOracle(t *testing.T) {
	t.Parallel()
	for _, s := range []string{"a", "a/b", "a.b/c-d_e", "...", "a/...", strings.Repeat("a", 200)} {
		if !pathMayBe(s) || !isOne(s, s) || isOne(s, s+"x") || isOne(s+"x", s) || !isOne(s+"*", s) || isOne(s+"?", s) || !isOne(s+"?", s+"x") {
			t.Errorf("path %.50q", s)
		}
	}
	for _, s := range []string{"", ".", "..", "/", "a/", "/a", "a//b", "a/./b", "../a", "a/..", "a*", "?", "a b", "a\n", "é", strings.Repeat("a", 201)} {
		if pathMayBe(s) {
			t.Errorf("path %.50q", s)
		}
	}
	if isOne("a*", "a/b") || isOne("a?b", "a/b") || isOne("a.b", "axb") || !isOne("*/?", "ab/c") {
		t.Error("patterns")
	}
	row := []api.Held{has("targets", files("b"), on("one", "a"), last("two", "*")), has("one"), has("x-9")}
	if !rowMayBe(row) || !rowMayBe(nil) || rowMayBe(append(row, has("one"))) || rowMayBe(append(row, has("A"))) || rowMayBe(append(row, api.Held{Name: "a"})) {
		t.Error("rows")
	}
	for path, want := range map[string]api.Walk{
		"a": {State: api.WWant, Want: "two", Role: roleOf("targets", "two"), Keys: keysOf("targets"), Seen: []string{"targets", "one"}},
		"b": {State: api.WFound, File: fileOf("targets", "b"), By: "targets", Seen: []string{"targets"}},
		"c": {State: api.WWant, Want: "two", Role: roleOf("targets", "two"), Keys: keysOf("targets"), Seen: []string{"targets"}},
		"/": {},
	} {
		if got, _ := walked(path, row); !same(got, want) || same(got, api.Walk{Seen: []string{"x"}}) {
			t.Errorf("walked %q: %+v", path, got)
		}
	}
	if got, e := walked("b/c", row); !same(got, api.Walk{State: api.WNone, Seen: []string{"targets"}}) || e != api.OK {
		t.Errorf("walked: %+v, %d", got, e)
	}
	if len(keysOf("a")) == 0 || keysOf("a")[0] == keysOf("b")[0] || slices.Equal(roleOf("a", "b").Ids, roleOf("b", "a").Ids) || fileOf("a", "x") == fileOf("b", "x") {
		t.Error("samples")
	}
}
