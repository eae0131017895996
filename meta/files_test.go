package meta_test

import (
	"fmt"
	"slices"
	"strings"
	"testing"

	"imprimatur/api"
)

// withFiles is one of other files.
func withFiles(m api.Meta, files ...api.File) api.Meta {
	return with(m, func(m *api.Meta) { m.Files = files })
}

// P15.1: of timestamp one file.
func TestHowManyFilesOfTimestamp(t *testing.T) {
	t.Parallel()
	m, f := timestamp(), fileOf("snapshot", 1)
	holds(t, "one", withFiles(m, f), true)
	holds(t, "none", withFiles(m), false)
	holds(t, "none", withFiles(m, []api.File{}...), false)
	holds(t, "two", withFiles(m, f, fileOf("targets", 1)), false)
	holds(t, "two of it", withFiles(m, f, f), false)
	holds(t, "two, it the last", withFiles(m, fileOf("root", 1), f), false)
	for _, n := range []int{2, 3, 31, 32, 33} {
		holds(t, "many", withFiles(m, append([]api.File{f}, fileRow(n-1, 3, 1)...)...), false)
	}
}

// P15.1: of timestamp a file of the name `snapshot`.
func TestNameOfTimestamp(t *testing.T) {
	t.Parallel()
	for _, name := range []string{"", "s", "snapsho", "snapshots", "snapshot ", " snapshot", "Snapshot", "SNAPSHOT", "snapshot\x00", "tnapshot", "snapshou", "snap-shot", "root", "timestamp", "targets", "one", "a/b", "\xff", `"`, `\`, "é", strings.Repeat("snapshot", 4)} {
		holds(t, "of another name", withFiles(timestamp(), fileOf(name, 1)), false)
	}
}

// P15.1: a file's Size, Sum and Version, of each kind that has files, at each place.
func TestFilesThatMayNotBe(t *testing.T) {
	t.Parallel()
	try := func(what string, may bool, change func(f *api.File)) {
		t.Helper()
		for _, m := range []api.Meta{timestamp(), snapshot(), targets(), withFiles(snapshot(), fileRow(32, 10, 4)...), withFiles(targets(), fileRow(32, 40, 0)...)} {
			for at := range m.Files {
				if at < 2 || at > 29 {
					holds(t, fmt.Sprintf("of Kind %d, at %d: %s", m.Kind, at, what), with(m, func(m *api.Meta) { change(&m.Files[at]) }), may)
				}
			}
		}
	}
	for _, n := range edges(0, 65536) {
		try(fmt.Sprint("Size ", n), n >= 0 && n <= 65536, func(f *api.File) { f.Size = n })
	}
	for _, n := range []int{0, 1, 16, 31, 32, 33, 64, 65, 288} {
		for _, of := range []string{"\x00", "\xff"} {
			try(fmt.Sprint(n, " bytes of Sum"), n == 32, func(f *api.File) { f.Sum = strings.Repeat(of, n) })
		}
	}
	try("the digits of the Sum", false, func(f *api.File) { f.Sum = hexed(f.Sum) })
	for _, n := range edges(1, million) {
		if n < 0 || n > million {
			try(fmt.Sprint("Version ", n), false, func(f *api.File) { f.Version = n })
		}
	}
}

// P15.1: of timestamp and snapshot a Version above 0, of targets 0.
func TestVersionsOfFiles(t *testing.T) {
	t.Parallel()
	for _, n := range append(edges(1, million), 2, 3) {
		for _, m := range []api.Meta{timestamp(), snapshot(), withFiles(snapshot(), fileRow(5, 8, 2)...)} {
			for at := range m.Files {
				holds(t, fmt.Sprintf("of Kind %d, at %d: Version %d", m.Kind, at, n), with(m, func(m *api.Meta) { m.Files[at].Version = n }), n >= 1 && n <= million)
			}
		}
		for at := range 2 {
			holds(t, fmt.Sprintf("of targets, at %d: Version %d", at, n), with(targets(), func(m *api.Meta) { m.Files[at].Version = n }), n == 0)
		}
	}
}

// P15.1: of snapshot and targets none to 32 files.
func TestHowManyFiles(t *testing.T) {
	t.Parallel()
	for n := range 70 {
		holds(t, fmt.Sprint(n, " of snapshot"), withFiles(snapshot(), fileRow(n, 3, 1)...), n <= 32)
		holds(t, fmt.Sprint(n, " of targets"), withFiles(targets(), fileRow(n, 3, 0)...), n <= 32)
	}
	holds(t, "thirty-two of targets, of version 1", withFiles(targets(), fileRow(32, 3, 1)...), false)
	holds(t, "thirty-two of snapshot, of version 0", withFiles(snapshot(), fileRow(32, 3, 0)...), false)
}

// P15.1: of snapshot names that may be.
func TestNamesOfSnapshot(t *testing.T) {
	t.Parallel()
	for _, name := range []string{"a", "root", "timestamp", "snapshot", "targets", "-", "0", strings.Repeat("z", 32)} {
		holds(t, "a name", withFiles(snapshot(), fileOf(name, 1)), true)
	}
	for _, name := range []string{"", "A", "oNe", "a/b", "a.b", "a_b", "a b", "*", "a?", strings.Repeat("z", 33), "\x00", "\x1f", `"`, `\`, "é", "a\xff", "a\n"} {
		holds(t, "a name that may not be", withFiles(snapshot(), fileOf(name, 1)), false)
		holds(t, "behind one", withFiles(snapshot(), sortedFiles(fileOf("!", 1), fileOf(name, 1))...), false)
		holds(t, "among others", withFiles(snapshot(), sortedFiles(append(fileRow(31, 5, 1), fileOf(name, 1))...)...), false)
	}
}

// sortedFiles are in the order of their names.
func sortedFiles(row ...api.File) []api.File {
	slices.SortStableFunc(row, func(a, b api.File) int { return strings.Compare(a.Name, b.Name) })
	return row
}

// P15.1: of targets paths that may be.
func TestPathsOfTargets(t *testing.T) {
	t.Parallel()
	for _, name := range []string{"a", "A", "a/b/c", "a.b", "a_b", "-", "0", "...", "root", strings.Repeat("z", 200), strings.Repeat("z/", 99) + "zz"} {
		holds(t, "a path", withFiles(targets(), fileOf(name, 0)), true)
		holds(t, "a path of a Version", withFiles(targets(), fileOf(name, 1)), false)
	}
	for _, name := range []string{"", "a*", "?", "/", "a/", "/a", "a//b", ".", "..", "a/./b", "a/..", strings.Repeat("z", 201), "a b", "\x00", "\x1f", `"`, `\`, "é", "a\xff", "a\n", "a+b", "a:b"} {
		holds(t, "a path that may not be", withFiles(targets(), fileOf(name, 0)), false)
		holds(t, "among others", withFiles(targets(), sortedFiles(append(fileRow(31, 5, 0), fileOf(name, 0))...)...), false)
	}
}

// P15.1: each name is greater than the one ahead of it, byte by byte.
func TestOrderOfFiles(t *testing.T) {
	t.Parallel()
	for _, kind := range []struct {
		m       api.Meta
		version int
		rise    []string
	}{
		{snapshot(), 1, []string{"-", "--", "-a", "0", "00", "1", "9", "a", "a-", "a0", "aa", "b", "ba", "z", "zz"}},
		{targets(), 0, []string{"-", ".a", "0", "00", "9", "A", "A.", "A/B", "A0", "AA", "B", "Z", "_", "a", "a-", "a.b", "a/b", "a/c", "aB", "ab", "b", "z", "zz"}},
	} {
		for i, a := range kind.rise {
			for j, b := range kind.rise {
				holds(t, fmt.Sprintf("%q, %q", a, b), withFiles(kind.m, fileOf(a, kind.version), fileOf(b, kind.version)), i < j)
			}
		}
		row := fileRow(32, 4, kind.version)
		holds(t, "in order", withFiles(kind.m, row...), true)
		for i := range row {
			for _, j := range []int{0, i / 2, 31} {
				holds(t, "two changed places", withFiles(kind.m, swapped(row, i, j)...), i == j)
				if i != j {
					holds(t, "one twice", withFiles(kind.m, put(row, i, row[j])...), false)
				}
			}
		}
		back := slices.Clone(row)
		slices.Reverse(back)
		holds(t, "the last one first", withFiles(kind.m, back...), false)
		holds(t, "one twice, of other bytes", withFiles(kind.m, row[3], api.File{Name: row[3].Name, Version: kind.version, Sum: summed("x")}), false)
	}
}
