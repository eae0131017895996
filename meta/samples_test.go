package meta_test

import (
	"fmt"
	"slices"
	"strings"

	"imprimatur/api"
)

// keyRow are so many keys, in the order of their sums.
func keyRow(n int) []api.Key {
	var out []api.Key
	for i := range n {
		public := summed(fmt.Sprint("key ", i))
		out = append(out, api.Key{Id: hexed(summed(public)), Public: public})
	}
	slices.SortFunc(out, func(a, b api.Key) int { return strings.Compare(a.Id, b.Id) })
	return out
}

func roleBy(need int, keys ...api.Key) api.Role {
	r := api.Role{Need: need}
	for _, k := range keys {
		r.Ids = append(r.Ids, k.Id)
	}
	return r
}

// sigRow are so many signatures, which are right ones of nothing.
func sigRow(n int) []api.Sig {
	var out []api.Sig
	for i := range n {
		out = append(out, api.Sig{Id: hexed(summed(fmt.Sprint("signer ", i))), Sig: summed(fmt.Sprint("first ", i)) + summed(fmt.Sprint("last ", i))})
	}
	return out
}

func fileOf(name string, version int) api.File {
	return api.File{Name: name, Version: version, Size: len(name), Sum: summed(name)}
}

// fileRow are so many files, in the order of their names, each of so many bytes.
func fileRow(n, length, version int) []api.File {
	var out []api.File
	for i := range n {
		out = append(out, fileOf(fmt.Sprintf("%03d", i)+strings.Repeat("a", length-3), version))
	}
	return out
}

func delegOf(name string, last bool, paths ...string) api.Deleg {
	return api.Deleg{Name: name, Role: roleBy(1, keyRow(2)...), Paths: paths, Last: last}
}

// delegRow are so many, with as much as they may have.
func delegRow(n int) []api.Deleg {
	var out []api.Deleg
	for i := range n {
		d := api.Deleg{Name: fmt.Sprintf("%032d", n-i), Role: roleBy(16, keyRow(16)...), Last: i%2 == 0}
		for k := range 8 {
			d.Paths = append(d.Paths, fmt.Sprintf("%02d/%d/", i, k)+strings.Repeat("*", 195))
		}
		out = append(out, d)
	}
	return out
}

// Metadata of each kind, new each time.

func root() api.Meta {
	keys := keyRow(5)
	return api.Meta{
		Kind: api.MRoot, Version: 7, Expires: 5000, Keys: keys, Log: summed("log"),
		Roles: []api.Role{roleBy(2, keys[:2]...), roleBy(1, keys[2]), roleBy(1, keys[2:4]...), roleBy(3, keys[1:]...)},
	}
}

func timestamp() api.Meta {
	return api.Meta{Kind: api.MTimestamp, Version: 12, Expires: 90, Files: []api.File{fileOf("snapshot", 11)}}
}

func snapshot() api.Meta {
	return api.Meta{Kind: api.MSnapshot, Version: 11, Expires: 4500, Files: []api.File{fileOf("one", 3), fileOf("targets", 5)}}
}

func targets() api.Meta {
	return api.Meta{
		Kind: api.MTargets, Version: 5, Expires: 4000, Keys: keyRow(2),
		Files:  []api.File{fileOf("a", 0), fileOf("b/C_d.e-f", 0)},
		Delegs: []api.Deleg{delegOf("one", false, "a/*", "b/?.txt"), delegOf("a-2", true, "*")},
	}
}

func small() []api.Meta {
	return []api.Meta{root(), timestamp(), snapshot(), targets()}
}

// bare are such as have as little as they may.
func bare() []api.Meta {
	one := roleBy(1, keyRow(1)...)
	return []api.Meta{
		{Kind: api.MRoot, Version: 1, Roles: []api.Role{one, one, one, one}, Log: strings.Repeat("\x00", 32)},
		{Kind: api.MTimestamp, Version: 1, Files: []api.File{{Name: "snapshot", Version: 1, Sum: strings.Repeat("\x00", 32)}}},
		{Kind: api.MSnapshot, Version: 1},
		{Kind: api.MTargets, Version: 1},
	}
}

// full are such as have as much as they may.
func full() []api.Meta {
	all := roleBy(16, keyRow(16)...)
	great := func(row []api.File) []api.File {
		for i := range row {
			row[i].Size, row[i].Sum = 65536, strings.Repeat("\xff", 32)
		}
		return row
	}
	return []api.Meta{
		{Kind: api.MRoot, Version: million, Expires: latest, Keys: keyRow(16), Roles: []api.Role{all, all, all, all}, Log: strings.Repeat("\xff", 32)},
		{Kind: api.MTimestamp, Version: million, Expires: latest, Files: great([]api.File{fileOf("snapshot", million)})},
		{Kind: api.MSnapshot, Version: million, Expires: latest, Files: great(fileRow(32, 32, million))},
		{Kind: api.MTargets, Version: million, Expires: latest, Files: great(fileRow(32, 200, 0)), Keys: keyRow(16), Delegs: delegRow(16)},
	}
}

func ordinary() []api.Meta {
	return slices.Concat(small(), bare(), full())
}

// copied is one that shares no list.
func copied(m api.Meta) api.Meta {
	m.Keys, m.Files = slices.Clone(m.Keys), slices.Clone(m.Files)
	m.Roles, m.Delegs = slices.Clone(m.Roles), slices.Clone(m.Delegs)
	for i := range m.Roles {
		m.Roles[i].Ids = slices.Clone(m.Roles[i].Ids)
	}
	for i := range m.Delegs {
		m.Delegs[i].Paths, m.Delegs[i].Role.Ids = slices.Clone(m.Delegs[i].Paths), slices.Clone(m.Delegs[i].Role.Ids)
	}
	return m
}

// with is a copy of one, that is changed.
func with(m api.Meta, change func(*api.Meta)) api.Meta {
	out := copied(m)
	change(&out)
	return out
}

// without is a row less one of it.
func without[T any](row []T, at int) []T {
	return slices.Delete(slices.Clone(row), at, at+1)
}

// swapped is a row of which two have changed places.
func swapped[T any](row []T, i, j int) []T {
	out := slices.Clone(row)
	out[i], out[j] = out[j], out[i]
	return out
}

func put[T any](row []T, at int, one T) []T {
	out := slices.Clone(row)
	out[at] = one
	return out
}
