package meta

import (
	"imprimatur/api"
	"imprimatur/octet"
	"imprimatur/value"
)

// ofMeta is the value of metadata that may be.
func ofMeta(m api.Meta) api.Value {
	pairs := []api.Pair{text("kind", nameOf(m.Kind)), number("version", m.Version), number("expires", m.Expires)}
	switch m.Kind {
	case api.MRoot:
		pairs = append(pairs, list("keys", m.Keys, ofKey), digits("log", m.Log), list("roles", m.Roles, ofRole))
	case api.MTimestamp, api.MSnapshot:
		pairs = append(pairs, list("files", m.Files, ofFile))
	case api.MTargets:
		pairs = append(pairs, list("delegs", m.Delegs, ofDeleg), list("files", m.Files, ofFile), list("keys", m.Keys, ofKey))
	}
	return byKeys(pairs...)
}

func ofSig(s api.Sig) api.Value {
	return byKeys(text("id", s.Id), digits("sig", s.Sig))
}

func ofKey(k api.Key) api.Value {
	return byKeys(text("id", k.Id), digits("public", k.Public))
}

func ofRole(r api.Role) api.Value {
	return byKeys(list("ids", r.Ids, value.Text), number("need", r.Need))
}

func ofFile(f api.File) api.Value {
	return byKeys(text("name", f.Name), number("size", f.Size), digits("sum", f.Sum), number("version", f.Version))
}

func ofDeleg(d api.Deleg) api.Value {
	last := 0
	if d.Last {
		last = 1
	}
	return byKeys(number("last", last), text("name", d.Name), list("paths", d.Paths, value.Text), pair("role", ofRole(d.Role)))
}

// byKeys is for pairs of which no two have one key, so that there is no error to tell.
func byKeys(pairs ...api.Pair) api.Value {
	v, _ := value.Map(pairs...)
	return v
}

func pair(key string, v api.Value) api.Pair {
	return api.Pair{Key: key, V: v}
}

func text(key, s string) api.Pair {
	return pair(key, value.Text(s))
}

// digits are a pair of bytes.
func digits(key, s string) api.Pair {
	return text(key, octet.Hex(s))
}

func number(key string, n int) api.Pair {
	return pair(key, value.Number(int64(n)))
}

// list is a pair of a row of anything, whose values one by one are made by a function.
func list[T any](key string, row []T, of func(T) api.Value) api.Pair {
	var items []api.Value
	for _, one := range row {
		items = append(items, of(one))
	}
	return pair(key, value.List(items...))
}
