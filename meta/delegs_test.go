package meta_test

import (
	"fmt"
	"slices"
	"strings"
	"testing"

	"imprimatur/api"
)

// withDelegs is targets metadata of others.
func withDelegs(row ...api.Deleg) api.Meta {
	return with(targets(), func(m *api.Meta) { m.Delegs = row })
}

// manyDelegs are so many, of names of their own, in no order of these.
func manyDelegs(n int) []api.Deleg {
	var out []api.Deleg
	for i := range n {
		out = append(out, delegOf(fmt.Sprint("d", (i*7)%31, "-", i), i%3 == 0, "a"))
	}
	return out
}

// P15.1: none to 16.
func TestHowManyDelegs(t *testing.T) {
	t.Parallel()
	for n := range 40 {
		holds(t, fmt.Sprint(n, " delegs"), withDelegs(manyDelegs(n)...), n <= 16)
	}
	holds(t, "none", withDelegs([]api.Deleg{}...), true)
	holds(t, "seventeen great ones", withDelegs(delegRow(17)...), false)
}

// P15.1: a name that may be, and that is no kind's.
func TestNamesOfDelegs(t *testing.T) {
	t.Parallel()
	try := func(name string, may bool) {
		t.Helper()
		holds(t, fmt.Sprintf("%q", name), withDelegs(delegOf(name, false, "a")), may)
		for _, at := range []int{0, 1, 8, 15} {
			holds(t, fmt.Sprintf("%q among others", name), withDelegs(put(manyDelegs(16), at, delegOf(name, true, "a"))...), may)
		}
	}
	for _, name := range []string{"a", "one", "-", "0", "roo", "root-", "-root", "roots", "target", "targets-", "snapshots", "timestamps", "time", "stamp", "rooot", "log", "head", strings.Repeat("z", 32)} {
		try(name, true)
	}
	for _, name := range []string{"root", "timestamp", "snapshot", "targets", "", "Root", "A", "a/b", "a.b", "a_b", "a b", "*", strings.Repeat("z", 33), "\x00", "\x1f", `"`, `\`, "é", "a\xff", "a\n"} {
		try(name, false)
	}
}

// P15.1: no name twice, beside each other or not, whatever else they have; and in any order.
func TestDelegsOfOneName(t *testing.T) {
	t.Parallel()
	row := manyDelegs(16)
	for i := range row {
		for j := range row {
			holds(t, "two changed places", withDelegs(swapped(row, i, j)...), true)
			if i != j {
				other := delegOf(row[j].Name, !row[j].Last, "b", "c")
				holds(t, fmt.Sprintf("one name at %d and %d", i, j), withDelegs(put(row, i, other)...), false)
			}
		}
	}
	holds(t, "one twice", withDelegs(row[0], row[0]), false)
	holds(t, "one twice, and another one", withDelegs(row[0], row[1], row[0]), false)
	back := slices.Clone(row)
	slices.Reverse(back)
	holds(t, "the last one first", withDelegs(back...), true)
	holds(t, "of the same patterns and roles", withDelegs(delegOf("a", true, "x"), delegOf("b", true, "x"), delegOf("c", true, "x")), true)
}

// P15.1: a role that may not be, at each place.
func TestRolesOfDelegs(t *testing.T) {
	t.Parallel()
	for i, r := range rolesThatMayNotBe() {
		for _, n := range []int{1, 2, 16} {
			for at := range n {
				row := manyDelegs(n)
				row[at].Role = r
				holds(t, fmt.Sprintf("role %d at %d", i, at), withDelegs(row...), false)
			}
		}
	}
	for n := 1; n <= 16; n++ {
		for _, need := range []int{1, n} {
			d := delegOf("one", false, "a")
			d.Role = roleBy(need, keyRow(n)...)
			holds(t, fmt.Sprintf("%d of %d", need, n), withDelegs(d), true)
		}
	}
	d := delegOf("one", false, "a")
	d.Role = roleBy(1, keyRow(16)[9:]...)
	holds(t, "of keys that are not there", with(withDelegs(d), func(m *api.Meta) { m.Keys = nil }), true)
}

// P15.1: 1 to 8 patterns.
func TestHowManyPatterns(t *testing.T) {
	t.Parallel()
	for n := range 20 {
		paths := slices.Repeat([]string{"a", "b/*", "a"}, 7)[:n]
		for _, at := range []int{0, 1, 15} {
			row := manyDelegs(16)
			row[at].Paths = paths
			holds(t, fmt.Sprint(n, " patterns"), withDelegs(row...), n >= 1 && n <= 8)
		}
		holds(t, fmt.Sprint(n, " patterns"), withDelegs(delegOf("one", true, paths...)), n >= 1 && n <= 8)
	}
	holds(t, "none", withDelegs(delegOf("one", true, []string{}...)), false)
}

// P15.1: patterns that may be, at each place, in any order, also twice the same.
func TestPatterns(t *testing.T) {
	t.Parallel()
	try := func(pattern string, may bool) {
		t.Helper()
		for _, n := range []int{1, 2, 8} {
			for at := range n {
				paths := slices.Repeat([]string{"a/*"}, n)
				paths[at] = pattern
				holds(t, fmt.Sprintf("pattern %.50q at %d of %d", pattern, at, n), withDelegs(delegOf("one", false, "x"), delegOf("two", true, paths...)), may)
			}
		}
	}
	for _, pattern := range []string{"a", "*", "?", "**", "a/*/?", "A.b-c_d", strings.Repeat("*", 200), "...", "*."} {
		try(pattern, true)
	}
	for _, pattern := range []string{"", "/", "a/", "/*", "a//b", ".", "..", "a/..", strings.Repeat("*", 201), "a b", "[a]", "{a}", "\x00", "\x1f", `"`, `\*`, "é", "a\xff", "*\n"} {
		try(pattern, false)
	}
}

// P15.1: Last of both kinds, at each place.
func TestLast(t *testing.T) {
	t.Parallel()
	for bits := range 8 {
		row := manyDelegs(3)
		want := ""
		for i := range row {
			row[i].Last = bits>>i&1 == 1
			want += fmt.Sprint(bits >> i & 1)
		}
		m := withDelegs(row...)
		holds(t, "Last "+want, m, true)
		got := ""
		for _, part := range strings.Split(bodyOf(m), `{"last":`)[1:] {
			got += part[:1]
		}
		if got != want {
			t.Errorf("Last %s, not %s", got, want)
		}
	}
}
