package meta_test

import (
	"crypto/sha256"
	"encoding/hex"
	"fmt"
	"regexp"
	"slices"
	"strconv"
	"strings"
	"testing"

	"imprimatur/api"
	"imprimatur/glob"
	"imprimatur/meta"
	"imprimatur/parse"
	"imprimatur/role"
)

const (
	least    = -1 << 63
	greatest = 1<<63 - 1
	million  = 1000000
	latest   = 1 << 40
)

var kinds = []string{"", "root", "timestamp", "snapshot", "targets", ""}

func summed(s string) string {
	sum := sha256.Sum256([]byte(s))
	return string(sum[:])
}

func hexed(s string) string { return hex.EncodeToString([]byte(s)) }

// same tells whether two are the same, where a nil list counts as an empty one.
func same(a, b api.Meta) bool {
	return a.Kind == b.Kind && a.Version == b.Version && a.Expires == b.Expires && a.Log == b.Log &&
		slices.Equal(a.Keys, b.Keys) && slices.Equal(a.Files, b.Files) &&
		slices.EqualFunc(a.Roles, b.Roles, sameRole) && slices.EqualFunc(a.Delegs, b.Delegs, sameDeleg)
}

func sameRole(a, b api.Role) bool {
	return a.Need == b.Need && slices.Equal(a.Ids, b.Ids)
}

func sameDeleg(a, b api.Deleg) bool {
	return a.Name == b.Name && a.Last == b.Last && slices.Equal(a.Paths, b.Paths) && sameRole(a.Role, b.Role)
}

// The text, as the chapter has it, put together from pieces of JSON that are written out.

func bodyOf(m api.Meta) string {
	kind := quoted(kinds[min(max(m.Kind, 0), 5)])
	switch m.Kind {
	case 1:
		return fmt.Sprintf(`{"expires":%d,"keys":%s,"kind":%s,"log":"%x","roles":%s,"version":%d}`, m.Expires, rowed(m.Keys, keyText), kind, m.Log, rowed(m.Roles, roleText), m.Version)
	case 4:
		return fmt.Sprintf(`{"delegs":%s,"expires":%d,"files":%s,"keys":%s,"kind":%s,"version":%d}`, rowed(m.Delegs, delegText), m.Expires, rowed(m.Files, fileText), rowed(m.Keys, keyText), kind, m.Version)
	}
	return fmt.Sprintf(`{"expires":%d,"files":%s,"kind":%s,"version":%d}`, m.Expires, rowed(m.Files, fileText), kind, m.Version)
}

func textOf(m api.Meta, sigs ...api.Sig) string {
	return `{"meta":` + bodyOf(m) + `,"sigs":` + rowed(sigs, sigText) + `}`
}

func sigText(s api.Sig) string { return fmt.Sprintf(`{"id":%s,"sig":"%x"}`, quoted(s.Id), s.Sig) }

func keyText(k api.Key) string { return fmt.Sprintf(`{"id":%s,"public":"%x"}`, quoted(k.Id), k.Public) }

func roleText(r api.Role) string {
	return fmt.Sprintf(`{"ids":%s,"need":%d}`, rowed(r.Ids, quoted), r.Need)
}

func fileText(f api.File) string {
	return fmt.Sprintf(`{"name":%s,"size":%d,"sum":"%x","version":%d}`, quoted(f.Name), f.Size, f.Sum, f.Version)
}

func delegText(d api.Deleg) string {
	return fmt.Sprintf(`{"last":%d,"name":%s,"paths":%s,"role":%s}`, map[bool]int{true: 1}[d.Last], quoted(d.Name), rowed(d.Paths, quoted), roleText(d.Role))
}

func rowed[T any](row []T, text func(T) string) string {
	var parts []string
	for _, one := range row {
		parts = append(parts, text(one))
	}
	return "[" + strings.Join(parts, ",") + "]"
}

var marks = strings.NewReplacer(`\`, `\\`, `"`, `\"`)

func quoted(s string) string {
	return `"` + marks.Replace(s) + `"`
}

// What may be, as the chapter has it.

var (
	names = regexp.MustCompile(`\A[a-z0-9-]{1,32}\z`)
	sums  = regexp.MustCompile(`\A[0-9a-f]{64}\z`)
)

func mayBe(m api.Meta) bool {
	if m.Version < 1 || m.Version > million || m.Expires < 0 || m.Expires > latest {
		return false
	}
	only := api.Meta{Kind: m.Kind, Version: m.Version, Expires: m.Expires}
	fit := false
	switch m.Kind {
	case 1:
		only.Keys, only.Roles, only.Log = m.Keys, m.Roles, m.Log
		fit = role.Keys(m.Keys) && len(m.Roles) == 4 && each(m.Roles, role.Right) && len(m.Log) == 32
	case 2:
		only.Files = m.Files
		fit = len(m.Files) == 1 && fileMayBe(m.Files[0]) && m.Files[0].Name == "snapshot" && m.Files[0].Version != 0
	case 3:
		only.Files = m.Files
		fit = filesMayBe(m.Files, func(f api.File) bool { return names.MatchString(f.Name) && f.Version != 0 })
	case 4:
		only.Files, only.Keys, only.Delegs = m.Files, m.Keys, m.Delegs
		fit = role.Keys(m.Keys) && delegsMayBe(m.Delegs) && filesMayBe(m.Files, func(f api.File) bool { return glob.Path(f.Name) && f.Version == 0 })
	}
	return fit && same(m, only)
}

func each[T any](row []T, is func(T) bool) bool {
	for _, one := range row {
		if !is(one) {
			return false
		}
	}
	return true
}

func fileMayBe(f api.File) bool {
	return f.Size >= 0 && f.Size <= 65536 && len(f.Sum) == 32 && f.Version >= 0 && f.Version <= million
}

func filesMayBe(row []api.File, is func(api.File) bool) bool {
	var all []string
	for _, f := range row {
		all = append(all, f.Name)
	}
	return len(row) <= 32 && each(row, fileMayBe) && each(row, is) && slices.IsSorted(all) && !twice(all)
}

func delegsMayBe(row []api.Deleg) bool {
	all := []string{"root", "timestamp", "snapshot", "targets"}
	for _, d := range row {
		all = append(all, d.Name)
		if !names.MatchString(d.Name) || !role.Right(d.Role) || len(d.Paths) == 0 || len(d.Paths) > 8 || !each(d.Paths, glob.Right) {
			return false
		}
	}
	return len(row) <= 16 && !twice(all)
}

func twice(all []string) bool {
	row := slices.Sorted(slices.Values(all))
	return len(slices.Compact(row)) < len(all)
}

func sigsMayBe(row []api.Sig) bool {
	return len(row) <= 16 && each(row, func(s api.Sig) bool { return sums.MatchString(s.Id) && len(s.Sig) == 64 })
}

// What a text tells, by one pattern of all of it and by patterns of its rows.

func rowOf(part string) string { return `\[((?:` + part + `(?:,` + part + `)*)?)\]` }

const (
	numberPart = `(-?[0-9]+)`
	textPart   = `"([^"\\]*)"`
	digitsPart = `"((?:[0-9a-f][0-9a-f])*)"`
	keyPart    = `\{"id":` + textPart + `,"public":` + digitsPart + `\}`
	sigPart    = `\{"id":` + textPart + `,"sig":` + digitsPart + `\}`
	filePart   = `\{"name":` + textPart + `,"size":` + numberPart + `,"sum":` + digitsPart + `,"version":` + numberPart + `\}`
)

var (
	rolePart  = `\{"ids":` + rowOf(textPart) + `,"need":` + numberPart + `\}`
	delegPart = `\{"last":([01]),"name":` + textPart + `,"paths":` + rowOf(textPart) + `,"role":` + rolePart + `\}`
	someTexts = regexp.MustCompile(textPart)
	someKeys  = regexp.MustCompile(keyPart)
	someSigs  = regexp.MustCompile(sigPart)
	someFiles = regexp.MustCompile(filePart)
	someRoles = regexp.MustCompile(rolePart)
	delegated = regexp.MustCompile(delegPart)
	whole     = []*regexp.Regexp{
		nil,
		wholly(`\{"expires":(?P<expires>-?[0-9]+),"keys":(?P<keys>` + rowOf(keyPart) + `),"kind":"root","log":(?P<log>` + digitsPart + `),"roles":(?P<roles>` + rowOf(rolePart) + `),"version":(?P<version>-?[0-9]+)\}`),
		wholly(`\{"expires":(?P<expires>-?[0-9]+),"files":(?P<files>` + rowOf(filePart) + `),"kind":"timestamp","version":(?P<version>-?[0-9]+)\}`),
		wholly(`\{"expires":(?P<expires>-?[0-9]+),"files":(?P<files>` + rowOf(filePart) + `),"kind":"snapshot","version":(?P<version>-?[0-9]+)\}`),
		wholly(`\{"delegs":(?P<delegs>` + rowOf(delegPart) + `),"expires":(?P<expires>-?[0-9]+),"files":(?P<files>` + rowOf(filePart) + `),"keys":(?P<keys>` + rowOf(keyPart) + `),"kind":"targets","version":(?P<version>-?[0-9]+)\}`),
	}
)

func wholly(part string) *regexp.Regexp {
	return regexp.MustCompile(`\A\{"meta":` + part + `,"sigs":(?P<sigs>` + rowOf(sigPart) + `)\}\z`)
}

// told is what the chapter says of Parse.
func told(s string) (api.Meta, []api.Sig, api.Errno) {
	if _, e := parse.Parse(s); e != api.OK {
		return api.Meta{}, nil, e
	}
	for kind, form := range whole {
		found := []string(nil)
		if kind > 0 && strings.Contains(s, `"kind":"`+kinds[kind]+`"`) {
			found = form.FindStringSubmatch(s)
		}
		if found == nil {
			continue
		}
		part := func(name string) string {
			if i := form.SubexpIndex(name); i > 0 {
				return found[i]
			}
			return ""
		}
		m := api.Meta{Kind: kind, Version: number(part("version")), Expires: number(part("expires")), Log: bytes(strings.Trim(part("log"), `"`))}
		m.Keys = some(part("keys"), someKeys, func(p []string) api.Key { return api.Key{Id: p[1], Public: bytes(p[2])} })
		m.Roles = some(part("roles"), someRoles, func(p []string) api.Role { return roleTold(p[1:]) })
		m.Files = some(part("files"), someFiles, func(p []string) api.File {
			return api.File{Name: p[1], Size: number(p[2]), Sum: bytes(p[3]), Version: number(p[4])}
		})
		m.Delegs = some(part("delegs"), delegated, func(p []string) api.Deleg {
			return api.Deleg{Last: p[1] == "1", Name: p[2], Paths: texts(p[3]), Role: roleTold(p[len(p)-4:])}
		})
		sigs := some(part("sigs"), someSigs, func(p []string) api.Sig { return api.Sig{Id: p[1], Sig: bytes(p[2])} })
		if mayBe(m) && sigsMayBe(sigs) {
			return m, sigs, api.OK
		}
	}
	return api.Meta{}, nil, api.ErrSchema
}

// roleTold is of what the pattern of a role finds: its Ids first, and its Need last.
func roleTold(parts []string) api.Role {
	return api.Role{Ids: texts(parts[0]), Need: number(parts[len(parts)-1])}
}

func some[T any](s string, form *regexp.Regexp, of func([]string) T) []T {
	var out []T
	for _, parts := range form.FindAllStringSubmatch(s, -1) {
		out = append(out, of(parts))
	}
	return out
}

func texts(s string) []string {
	return some(s, someTexts, func(p []string) string { return p[1] })
}

func number(s string) int {
	n, _ := strconv.Atoi(s)
	return n
}

func bytes(digits string) string {
	b, err := hex.DecodeString(digits)
	if err != nil {
		panic(err)
	}
	return string(b)
}

// reads holds that Parse answers what the text tells, and answers that.
func reads(t *testing.T, what, s string) (api.Meta, []api.Sig, api.Errno) {
	t.Helper()
	wantMeta, wantSigs, want := told(s)
	m, sigs, e := meta.Parse(s)
	if !same(m, wantMeta) || !slices.Equal(sigs, wantSigs) || e != want {
		t.Errorf("%s: Parse of %.1000q: %+v, %q, %d, not %+v, %q, %d", what, s, m, sigs, e, wantMeta, wantSigs, want)
	}
	return m, sigs, e
}

// readsAs holds that Parse answers just these.
func readsAs(t *testing.T, what, s string, want api.Meta, wantSigs ...api.Sig) {
	t.Helper()
	if m, sigs, e := reads(t, what, s); !same(m, want) || !slices.Equal(sigs, wantSigs) || e != api.OK {
		t.Errorf("%s: Parse of %.1000q: %+v, %q, %d, not %+v, %q", what, s, m, sigs, e, want, wantSigs)
	}
}

// refuses holds that Parse tells this error, and nothing beside it.
func refuses(t *testing.T, what, s string, want api.Errno) {
	t.Helper()
	if m, sigs, e := reads(t, what, s); !same(m, api.Meta{}) || len(sigs) > 0 || e != want {
		t.Errorf("%s: Parse of %.1000q: %+v, %q, %d, not error %d", what, s, m, sigs, e, want)
	}
}

// prints holds what Body and Print answer of metadata and signatures.
func prints(t *testing.T, what string, m api.Meta, may bool, sigs ...api.Sig) {
	t.Helper()
	body, text, e, f := "", "", api.ErrArg, api.ErrArg
	if may {
		body, e = bodyOf(m), api.OK
	}
	if may && sigsMayBe(sigs) {
		text, f = textOf(m, sigs...), api.OK
	}
	if got, err := meta.Body(m); got != body || err != e {
		t.Errorf("%s: Body %.1000q, %d, not %.1000q, %d", what, got, err, body, e)
	}
	if got, err := meta.Print(m, sigs...); got != text || err != f {
		t.Errorf("%s: Print with %d signatures %.1000q, %d, not %.1000q, %d", what, len(sigs), got, err, text, f)
	}
}

// holds is of metadata that may be, or may not: what Right, Body and Print answer, and Parse of what would be its text.
func holds(t *testing.T, what string, m api.Meta, may bool) {
	t.Helper()
	if mayBe(m) != may {
		t.Errorf("%s: by the chapter's words it is the other way round: %+v", what, m)
	}
	if got := meta.Right(m); got != may {
		t.Errorf("%s: Right %t: %+v", what, got, m)
	}
	for _, sigs := range [][]api.Sig{nil, sigRow(2), append(sigRow(1), api.Sig{})} {
		prints(t, what, m, may, sigs...)
		if s := textOf(m, sigs...); may && sigsMayBe(sigs) {
			readsAs(t, what, s, m, sigs...)
		} else {
			reads(t, what, s)
		}
	}
}

// The words of this file lead where the chapter says.
func TestOracle(t *testing.T) {
	t.Parallel()
	for _, m := range ordinary() {
		s := textOf(m, sigRow(3)...)
		if got, sigs, e := told(s); !same(got, m) || !slices.Equal(sigs, sigRow(3)) || e != api.OK || !mayBe(m) {
			t.Errorf("told of %.1000q: %+v, %q, %d", s, got, sigs, e)
		}
		other := m
		other.Version++
		if same(m, other) || same(other, m) || mayBe(api.Meta{Kind: m.Kind}) {
			t.Errorf("%d is the same as %d", m.Version, other.Version)
		}
		if _, _, e := told(strings.Replace(s, `"sigs":[`, `"sigs":[ `, 1)); e != api.ErrSyntax {
			t.Errorf("told of a blank: %d", e)
		}
		if _, _, e := told(strings.Replace(s, `"sigs"`, `"sigz"`, 1)); e != api.ErrSchema {
			t.Errorf("told of another key: %d", e)
		}
	}
	if !slices.IsSortedFunc(keyRow(17), func(a, b api.Key) int { return strings.Compare(a.Id, b.Id) }) || !role.Keys(keyRow(16)) || !sigsMayBe(sigRow(16)) || sigsMayBe(sigRow(17)) {
		t.Error("keys or signatures")
	}
}
