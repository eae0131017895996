package deleg_test

import (
	"crypto/sha256"
	"encoding/hex"
	"fmt"
	"slices"
	"strings"

	"imprimatur/api"
)

const most = 32 // roles that are seen, or held

func summed(s string) string {
	sum := sha256.Sum256([]byte(s))
	return string(sum[:])
}

func hexed(s string) string { return hex.EncodeToString([]byte(s)) }

// keysOf are those that stand in the metadata of a role, other ones in each.
func keysOf(holder string) []api.Key {
	var out []api.Key
	for i := range 1 + len(holder)%3 {
		public := summed(fmt.Sprint(holder, "'s key ", i))
		out = append(out, api.Key{Id: hexed(summed(public)), Public: public})
	}
	slices.SortFunc(out, func(a, b api.Key) int { return strings.Compare(a.Id, b.Id) })
	return out
}

// roleOf is who must sign for a role, as another one's metadata tells: another role in each.
func roleOf(holder, name string) api.Role {
	ids := []string{hexed(summed(holder + " of " + name)), hexed(summed(name + " by " + holder))}
	slices.Sort(ids)
	return api.Role{Ids: ids, Need: 1 + len(name)%2}
}

// fileOf is a path's file, as a role tells it: another one in each.
func fileOf(holder, path string) api.File {
	return api.File{Name: path, Size: 1 + len(holder), Sum: summed(holder + " tells " + path)}
}

// part is something of metadata: it is put into that of a holder.
type part func(holder string, m *api.Meta)

// files are some, by their paths.
func files(paths ...string) part {
	return func(holder string, m *api.Meta) {
		for _, path := range slices.Sorted(slices.Values(paths)) {
			m.Files = append(m.Files, fileOf(holder, path))
		}
	}
}

// on hands paths on, and others may be asked behind it.
func on(name string, patterns ...string) part {
	return func(holder string, m *api.Meta) {
		m.Delegs = append(m.Delegs, api.Deleg{Name: name, Role: roleOf(holder, name), Paths: patterns})
	}
}

// last hands paths on, and no other one is asked behind it.
func last(name string, patterns ...string) part {
	return func(holder string, m *api.Meta) {
		m.Delegs = append(m.Delegs, api.Deleg{Name: name, Role: roleOf(holder, name), Paths: patterns, Last: true})
	}
}

// has is what is held of a role.
func has(holder string, parts ...part) api.Held {
	m := api.Meta{Kind: api.MTargets, Version: 1 + len(holder), Expires: 1000, Keys: keysOf(holder)}
	for _, p := range parts {
		p(holder, &m)
	}
	return api.Held{Name: holder, Meta: m}
}

// copied is a row that shares no list with this one.
func copied(held []api.Held) []api.Held {
	out := slices.Clone(held)
	for i := range out {
		m := &out[i].Meta
		m.Keys, m.Files, m.Roles, m.Delegs = slices.Clone(m.Keys), slices.Clone(m.Files), slices.Clone(m.Roles), slices.Clone(m.Delegs)
		for i := range m.Roles {
			m.Roles[i].Ids = slices.Clone(m.Roles[i].Ids)
		}
		for i := range m.Delegs {
			d := &m.Delegs[i]
			d.Paths, d.Role.Ids = slices.Clone(d.Paths), slices.Clone(d.Role.Ids)
		}
	}
	return out
}

// changed is a copy of one, with something of its metadata another one.
func changed(h api.Held, change func(*api.Meta)) api.Held {
	out := copied([]api.Held{h})[0]
	change(&out.Meta)
	return out
}

// put is the row with one of it another one.
func put[T any](row []T, at int, one T) []T {
	out := slices.Clone(row)
	out[at] = one
	return out
}

// without is the row less one of it.
func without[T any](row []T, at int) []T {
	return slices.Delete(slices.Clone(row), at, at+1)
}

// permuted are all orders of a row.
func permuted[T any](row []T) [][]T {
	if len(row) == 0 {
		return [][]T{nil}
	}
	var out [][]T
	for i, first := range row {
		for _, rest := range permuted(without(row, i)) {
			out = append(out, append([]T{first}, rest...))
		}
	}
	return out
}
