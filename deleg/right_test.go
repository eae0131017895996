package deleg_test

import (
	"fmt"
	"slices"
	"strings"
	"testing"

	"imprimatur/api"
	"imprimatur/deleg"
)

// someHeld are so many, of names of their own, the first one of which is `targets`.
func someHeld(n int) []api.Held {
	var out []api.Held
	for i := range n {
		name := fmt.Sprint("h", (i*7)%41, "-", i)
		if i == 0 {
			name = "targets"
		}
		out = append(out, has(name, files("f", fmt.Sprint("g", i)), on("h7-1", "a/?")))
	}
	return out
}

// P16.1: none to 32 of it.
func TestHowManyAreHeld(t *testing.T) {
	t.Parallel()
	isRight(t, "nil", nil, true)
	isRight(t, "empty", []api.Held{}, true)
	for n := range 70 {
		isRight(t, fmt.Sprint("so many: ", n), someHeld(n), n <= most)
		isRight(t, fmt.Sprint("so many, no targets: ", n), someHeld(n + 1)[1:], n <= most)
	}
	isRight(t, "great ones", slices.Repeat([]api.Held{has("targets")}, 33), false)
	for _, n := range []int{most + 1, 1 << 8, 1<<8 + 1, 1 << 16, 1 << 20} {
		isRight(t, "nothings", make([]api.Held, n), false)
	}
}

// P16.1: a name that may be, alone and among others.
func TestNamesThatMayBe(t *testing.T) {
	t.Parallel()
	for _, name := range []string{"a", "0", "-", "--", "9-a", "targets", "target", "targets-", "root", "snapshot", "timestamp", "one", strings.Repeat("a", 31), strings.Repeat("z", 32), strings.Repeat("-", 32)} {
		isRight(t, name, []api.Held{has(name)}, true)
		for _, n := range []int{2, 3, 32} {
			for _, at := range []int{0, 1, n / 2, n - 1} {
				isRight(t, name+" among others", put(someHeld(n), at, has(name)), name != "targets" || at == 0)
			}
		}
	}
	var row []api.Held
	for i := range 32 {
		row = append(row, has(fmt.Sprintf("%s%02d", strings.Repeat("x", 30), i)))
	}
	isRight(t, "long ones", row, true)
}

// P16.1: a name that may not be, alone and at each place.
func TestNamesThatMayNotBe(t *testing.T) {
	t.Parallel()
	for _, name := range []string{"", "A", "Targets", "oNe", "onE", "a b", " ", "a_b", "a.b", "a/b", "/", "*", "a*", "?", "é", "\x00", "a\x00", "\na", "a\n", "\xff", "`", "{", "+", ",", ":", strings.Repeat("a", 33), strings.Repeat("a", 64), strings.Repeat("z", 1<<20)} {
		isRight(t, fmt.Sprintf("%.40q", name), []api.Held{has(name)}, false)
		for _, n := range []int{2, 3, 32} {
			for _, at := range []int{0, 1, n / 2, n - 1} {
				isRight(t, fmt.Sprintf("%.40q at %d of %d", name, at, n), put(someHeld(n), at, has(name)), false)
			}
		}
	}
}

// P16.1: no name twice, beside each other or far apart, whatever is held of it.
func TestOneNameTwice(t *testing.T) {
	t.Parallel()
	for _, n := range []int{2, 3, 5, 32} {
		row := someHeld(n)
		for i := range n {
			for j := range i {
				for how, one := range map[string]api.Held{"the same": row[i], "another one": has(row[i].Name, files("z")), "the least": {Name: row[i].Name, Meta: api.Meta{Kind: api.MTargets, Version: 1}}} {
					isRight(t, fmt.Sprintf("%s at %d and %d of %d", how, j, i, n), put(row, j, one), false)
				}
			}
		}
	}
	isRight(t, "targets twice", []api.Held{has("targets"), has("targets")}, false)
	isRight(t, "others' beginnings", []api.Held{has("a"), has("aa"), has("aaa"), has("aab"), has("ab"), has("b")}, true)
	isRight(t, "the same metadata by two names", []api.Held{has("a"), {Name: "b", Meta: has("a").Meta}}, true)
	isRight(t, "a name three times", []api.Held{has("a"), has("b"), has("a"), has("c"), has("a")}, false)
	isRight(t, "all names twice", append(someHeld(16), someHeld(16)...), false)
}

// wrongMetas are such as may not be, and such as may be and are of another kind.
func wrongMetas() map[string]api.Meta {
	good := has("targets", files("a", "b/c"), on("one", "a/*"), last("two", "*"))
	of := func(change func(*api.Meta)) api.Meta { return changed(good, change).Meta }
	keys := keysOf("tt")
	r := api.Role{Ids: []string{keys[0].Id}, Need: 1}
	sum := summed("x")
	return map[string]api.Meta{
		"root":                {Kind: api.MRoot, Version: 1, Keys: keys, Roles: []api.Role{r, r, r, r}, Log: sum},
		"timestamp":           {Kind: api.MTimestamp, Version: 1, Files: []api.File{{Name: "snapshot", Version: 1, Sum: sum}}},
		"snapshot":            {Kind: api.MSnapshot, Version: 1, Files: []api.File{{Name: "targets", Version: 1, Sum: sum}}},
		"snapshot, no files":  {Kind: api.MSnapshot, Version: 1},
		"nothing":             {},
		"no kind":             of(func(m *api.Meta) { m.Kind = 0 }),
		"kind 5":              of(func(m *api.Meta) { m.Kind = 5 }),
		"kind -4":             of(func(m *api.Meta) { m.Kind = -4 }),
		"kind 2^32 + 4":       of(func(m *api.Meta) { m.Kind = 1<<32 + 4 }),
		"version 0":           of(func(m *api.Meta) { m.Version = 0 }),
		"version 10^6 + 1":    of(func(m *api.Meta) { m.Version = 1000001 }),
		"expires -1":          of(func(m *api.Meta) { m.Expires = -1 }),
		"expires 2^40 + 1":    of(func(m *api.Meta) { m.Expires = 1<<40 + 1 }),
		"a log":               of(func(m *api.Meta) { m.Log = sum }),
		"roles":               of(func(m *api.Meta) { m.Roles = []api.Role{r} }),
		"keys in no order":    of(func(m *api.Meta) { m.Keys = append(m.Keys, m.Keys[0]) }),
		"a key of another Id": of(func(m *api.Meta) { m.Keys[0].Public = sum }),
		"17 keys":             of(func(m *api.Meta) { m.Keys = make([]api.Key, 17) }),
		"files in no order":   of(func(m *api.Meta) { slices.Reverse(m.Files) }),
		"a file twice":        of(func(m *api.Meta) { m.Files[1] = m.Files[0] }),
		"a file's version":    of(func(m *api.Meta) { m.Files[1].Version = 1 }),
		"a file's name":       of(func(m *api.Meta) { m.Files[1].Name = "b/*" }),
		"a file's size":       of(func(m *api.Meta) { m.Files[0].Size = 65537 }),
		"33 files":            of(func(m *api.Meta) { m.Files = make([]api.File, 33) }),
		"a deleg's name":      of(func(m *api.Meta) { m.Delegs[1].Name = "targets" }),
		"a deleg twice":       of(func(m *api.Meta) { m.Delegs[1].Name = "one" }),
		"a deleg's role":      of(func(m *api.Meta) { m.Delegs[0].Role.Need = 3 }),
		"a deleg's no paths":  of(func(m *api.Meta) { m.Delegs[0].Paths = nil }),
		"a deleg's path":      of(func(m *api.Meta) { m.Delegs[1].Paths = []string{"a", "a//b"} }),
		"17 delegs":           of(func(m *api.Meta) { m.Delegs = make([]api.Deleg, 17) }),
	}
}

// P16.1: metadata that may not be, and such of each other kind, alone and at each place.
func TestMetadataThatMayNotBe(t *testing.T) {
	t.Parallel()
	for what, m := range wrongMetas() {
		for _, name := range []string{"targets", "one", "root", "timestamp", "snapshot"} {
			isRight(t, what+", of "+name, []api.Held{{Name: name, Meta: m}}, false)
		}
		for _, n := range []int{2, 3, 32} {
			for at := range n {
				row := someHeld(n)
				row[at].Meta = m
				isRight(t, fmt.Sprintf("%s at %d of %d", what, at, n), row, false)
			}
		}
		isRight(t, what+", and a name that may not be", []api.Held{{Name: "A", Meta: m}}, false)
		isRight(t, what+", and a name twice", []api.Held{has("a"), {Name: "a", Meta: m}}, false)
		isRight(t, what+", 33 of it", slices.Repeat([]api.Held{{Name: "a", Meta: m}}, 33), false)
	}
}

// P16.1: metadata with as little and as much as it may have.
func TestMetadataThatMayBe(t *testing.T) {
	t.Parallel()
	least := api.Meta{Kind: api.MTargets, Version: 1}
	isRight(t, "the least", []api.Held{{Name: "targets", Meta: least}}, true)
	isRight(t, "the least ones", []api.Held{{Name: "a", Meta: least}, {Name: "targets", Meta: least}}, true)
	isRight(t, "empty lists", []api.Held{{Name: "a", Meta: api.Meta{Kind: 4, Version: 1, Keys: []api.Key{}, Roles: []api.Role{}, Files: []api.File{}, Delegs: []api.Deleg{}}}}, true)
	var row []api.Held
	for i := range 32 {
		row = append(row, greatest(fmt.Sprintf("%032d", i)))
	}
	isRight(t, "the greatest ones", row, true)
	isRight(t, "the greatest ones, less one file's byte", put(row, 17, changed(row[17], func(m *api.Meta) { m.Files[31].Sum = m.Files[31].Sum[:31] })), false)
	if !deleg.Right(row) {
		t.Error("the greatest ones")
	}
}

// greatest is what is held of a role with as much as there may be.
func greatest(name string) api.Held {
	h := has(name)
	h.Meta.Version, h.Meta.Expires = 1000000, 1<<40
	h.Meta.Keys = nil
	for i := range 16 {
		public := summed(fmt.Sprint(name, " great ", i))
		h.Meta.Keys = append(h.Meta.Keys, api.Key{Id: hexed(summed(public)), Public: public})
	}
	slices.SortFunc(h.Meta.Keys, func(a, b api.Key) int { return strings.Compare(a.Id, b.Id) })
	var ids []string
	for _, k := range h.Meta.Keys {
		ids = append(ids, k.Id)
	}
	for i := range 32 {
		h.Meta.Files = append(h.Meta.Files, api.File{Name: fmt.Sprintf("%03d", i) + strings.Repeat("a", 197), Size: 65536, Sum: summed(fmt.Sprint(i))})
	}
	for i := range 16 {
		d := api.Deleg{Name: fmt.Sprintf("%s%02d", strings.Repeat("d", 30), i), Role: api.Role{Ids: ids, Need: 16}, Last: i == 3}
		for k := range 8 {
			d.Paths = append(d.Paths, fmt.Sprintf("%02d/%d/", i, k)+strings.Repeat("*", 195))
		}
		h.Meta.Delegs = append(h.Meta.Delegs, d)
	}
	return h
}
