package meta

import (
	"slices"

	"imprimatur/api"
	"imprimatur/glob"
	"imprimatur/octet"
	"imprimatur/role"
)

const (
	nameBytes    = "abcdefghijklmnopqrstuvwxyz0123456789-"
	longestName  = 32      // bytes
	lastVersion  = 1000000 // of metadata, and of a file
	sumSize      = 32      // bytes of a file's sum
	logSize      = 32      // bytes of the log's key
	idSize       = 64      // digits of a key's sum
	sigSize      = 64      // bytes of a signature
	mostPatterns = 8       // of one who is handed paths on to
)

// kinds are their names, in the order of their numbers.
func kinds() []string {
	return []string{"root", "timestamp", "snapshot", "targets"}
}

// kindOf is 0 of a name that is no kind's.
func kindOf(name string) int {
	return slices.Index(kinds(), name) + 1
}

// nameOf is for kinds that may be.
func nameOf(kind int) string {
	return kinds()[kind-1]
}

func within(n, least, most int) bool {
	return n >= least && n <= most
}

// all tells whether each one of a row may be.
func all[T any](row []T, mayBe func(T) bool) bool {
	return !slices.ContainsFunc(row, func(one T) bool { return !mayBe(one) })
}

func isRoot(m api.Meta) bool {
	return len(m.Files) == 0 && len(m.Delegs) == 0 &&
		role.Keys(m.Keys) && len(m.Roles) == len(kinds()) && all(m.Roles, role.Right) && len(m.Log) == logSize
}

func isTimestamp(m api.Meta) bool {
	return hasFilesAlone(m) && len(m.Files) == 1 &&
		areFiles(m.Files, func(f api.File) bool { return f.Name == nameOf(api.MSnapshot) && f.Version > 0 })
}

func isSnapshot(m api.Meta) bool {
	return hasFilesAlone(m) &&
		areFiles(m.Files, func(f api.File) bool { return Name(f.Name) && f.Version > 0 })
}

func isTargets(m api.Meta) bool {
	return len(m.Roles) == 0 && m.Log == "" && role.Keys(m.Keys) && areDelegs(m.Delegs) &&
		areFiles(m.Files, func(f api.File) bool { return glob.Path(f.Name) && f.Version == 0 })
}

func hasFilesAlone(m api.Meta) bool {
	return len(m.Keys) == 0 && len(m.Roles) == 0 && m.Log == "" && len(m.Delegs) == 0
}

// areFiles tells whether a row of files may be, each of which is such as its kind of metadata has.
func areFiles(row []api.File, isSuch func(api.File) bool) bool {
	if len(row) > api.MaxFiles {
		return false
	}
	for i, f := range row {
		if !isFile(f) || !isSuch(f) || i > 0 && f.Name <= row[i-1].Name {
			return false
		}
	}
	return true
}

func isFile(f api.File) bool {
	return within(f.Size, 0, api.MaxText) && len(f.Sum) == sumSize && within(f.Version, 0, lastVersion)
}

func areDelegs(row []api.Deleg) bool {
	if len(row) > api.MaxRoles {
		return false
	}
	for i, d := range row {
		if !isDeleg(d) || slices.ContainsFunc(row[:i], func(other api.Deleg) bool { return other.Name == d.Name }) {
			return false
		}
	}
	return true
}

// isDeleg looks for a kind's name, too: a role of that name is the root's to tell, and none is handed paths on to by it.
func isDeleg(d api.Deleg) bool {
	return Name(d.Name) && kindOf(d.Name) == 0 && role.Right(d.Role) &&
		within(len(d.Paths), 1, mostPatterns) && all(d.Paths, glob.Right)
}

func areSigs(row []api.Sig) bool {
	return len(row) <= api.MaxKeys && all(row, isSig)
}

// isSig takes an Id of just the digits that Unhex takes, which are those that Hex gives.
func isSig(s api.Sig) bool {
	_, e := octet.Unhex(s.Id)
	return e == api.OK && len(s.Id) == idSize && len(s.Sig) == sigSize
}
