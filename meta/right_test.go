package meta_test

import (
	"fmt"
	"slices"
	"strings"
	"testing"

	"imprimatur/api"
	"imprimatur/meta"
)

// P15.1: metadata of each kind.
func TestOrdinaryOnes(t *testing.T) {
	t.Parallel()
	for _, m := range ordinary() {
		holds(t, "an ordinary one", m, true)
		holds(t, "with lists that are empty", emptied(m), true)
	}
}

// emptied is one whose lists, if they have nothing, are not nil.
func emptied(m api.Meta) api.Meta {
	return with(m, func(m *api.Meta) {
		m.Keys, m.Roles = append([]api.Key{}, m.Keys...), append([]api.Role{}, m.Roles...)
		m.Files, m.Delegs = append([]api.File{}, m.Files...), append([]api.Deleg{}, m.Delegs...)
	})
}

// P15.1: Kind is 1 to 4.
func TestKinds(t *testing.T) {
	t.Parallel()
	for _, m := range append(ordinary(), api.Meta{}, api.Meta{Version: 1}) {
		for _, kind := range []int{least, -4, -3, -2, -1, 0, 5, 6, 7, 8, 9, 257, 1<<32 + 1, 1<<32 + 4, greatest} {
			holds(t, fmt.Sprint("Kind ", kind), with(m, func(m *api.Meta) { m.Kind = kind }), false)
		}
	}
}

// P15.1: one of a kind is one of another kind only where it has just what that one has, too.
func TestOneKindAsAnother(t *testing.T) {
	t.Parallel()
	try := func(list []api.Meta, also ...[2]int) {
		t.Helper()
		for i, m := range list {
			for kind := 1; kind <= 4; kind++ {
				may := kind == m.Kind || slices.Contains(also, [2]int{m.Kind, kind})
				holds(t, fmt.Sprintf("ordinary one %d of Kind %d as one of Kind %d", i, m.Kind, kind), with(m, func(m *api.Meta) { m.Kind = kind }), may)
			}
		}
	}
	snapshotToo := [2]int{api.MTimestamp, api.MSnapshot} // its one file's name is a role's
	try(small(), snapshotToo)
	try(bare(), snapshotToo, [2]int{api.MSnapshot, api.MTargets}, [2]int{api.MTargets, api.MSnapshot})
	try(full(), snapshotToo)
}

// edges are numbers around the least and the greatest one that may be.
func edges(low, high int) []int {
	return []int{least, -1 << 32, -high, low - 2, low - 1, low, low + 1, (low + high) / 2, high - 1, high, high + 1, high + 2, 2 * high, high + 1<<32, 1<<62 + low, greatest}
}

// P15.1: Version is 1 to 10^6.
func TestVersions(t *testing.T) {
	t.Parallel()
	for _, m := range small() {
		for _, n := range edges(1, million) {
			holds(t, fmt.Sprint("Version ", n), with(m, func(m *api.Meta) { m.Version = n }), n >= 1 && n <= million)
		}
	}
}

// P15.1: Expires is 0 to 2^40.
func TestExpires(t *testing.T) {
	t.Parallel()
	for _, m := range small() {
		for _, n := range edges(0, latest) {
			holds(t, fmt.Sprint("Expires ", n), with(m, func(m *api.Meta) { m.Expires = n }), n >= 0 && n <= latest)
		}
	}
}

// P15.1: what a kind has not is empty: each such field filled, alone, by one that could stand there, and by an empty one.
func TestFieldsThatAKindHasNot(t *testing.T) {
	t.Parallel()
	fill := map[string][]func(*api.Meta){
		"Keys":   {func(m *api.Meta) { m.Keys = keyRow(1) }, func(m *api.Meta) { m.Keys = []api.Key{{}} }},
		"Roles":  {func(m *api.Meta) { m.Roles = root().Roles }, func(m *api.Meta) { m.Roles = root().Roles[:1] }, func(m *api.Meta) { m.Roles = []api.Role{{}} }},
		"Log":    {func(m *api.Meta) { m.Log = summed("log") }, func(m *api.Meta) { m.Log = "\x00" }},
		"Files":  {func(m *api.Meta) { m.Files = []api.File{fileOf("a", 0)} }, func(m *api.Meta) { m.Files = []api.File{fileOf("snapshot", 1)} }, func(m *api.Meta) { m.Files = []api.File{{}} }},
		"Delegs": {func(m *api.Meta) { m.Delegs = []api.Deleg{delegOf("one", false, "a")} }, func(m *api.Meta) { m.Delegs = []api.Deleg{{}} }},
	}
	has := []string{"", "Keys Roles Log", "Files", "Files", "Files Keys Delegs"}
	tried := 0
	for _, m := range append(small(), bare()...) {
		for field, list := range fill {
			if strings.Contains(has[m.Kind], field) {
				continue
			}
			for _, change := range list {
				tried++
				holds(t, fmt.Sprintf("Kind %d with %s", m.Kind, field), with(m, change), false)
			}
		}
	}
	if tried != 2*(3+2+2*(2+3+2+2)+3+2) {
		t.Errorf("%d tried", tried)
	}
}

// P15.1, P1: lists far too long are looked at, too.
func TestLongLists(t *testing.T) {
	t.Parallel()
	many := 1 << 18
	for _, m := range small() {
		for what, change := range map[string]func(*api.Meta){
			"Keys":   func(m *api.Meta) { m.Keys = make([]api.Key, many) },
			"Roles":  func(m *api.Meta) { m.Roles = make([]api.Role, many) },
			"Log":    func(m *api.Meta) { m.Log = strings.Repeat("a", many) },
			"Files":  func(m *api.Meta) { m.Files = make([]api.File, many) },
			"Delegs": func(m *api.Meta) { m.Delegs = make([]api.Deleg, many) },
			"Paths":  func(m *api.Meta) { m.Delegs = []api.Deleg{{Name: "a", Paths: make([]string, many)}} },
			"Ids":    func(m *api.Meta) { m.Roles = []api.Role{{Ids: make([]string, many), Need: 1}} },
		} {
			if meta.Right(with(m, change)) {
				t.Errorf("Right of Kind %d with many %s", m.Kind, what)
			}
			prints(t, "many "+what, with(m, change), false)
		}
		prints(t, "many signatures", m, true, make([]api.Sig, many)...)
	}
}
