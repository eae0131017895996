package meta

import (
	"imprimatur/api"
	"imprimatur/octet"
	"imprimatur/parse"
)

// What is read of a value that is not there, or of another kind, is empty, and what is there beside is passed over: Parse finds both where it writes again what was read.

func toMeta(v api.Value) api.Meta {
	return api.Meta{
		Kind:    kindOf(textAt(v, "kind")),
		Version: numberAt(v, "version"),
		Expires: numberAt(v, "expires"),
		Keys:    rowAt(v, "keys", toKey),
		Roles:   rowAt(v, "roles", toRole),
		Log:     bytesAt(v, "log"),
		Files:   rowAt(v, "files", toFile),
		Delegs:  rowAt(v, "delegs", toDeleg),
	}
}

func toSig(v api.Value) api.Sig {
	return api.Sig{Id: textAt(v, "id"), Sig: bytesAt(v, "sig")}
}

func toKey(v api.Value) api.Key {
	return api.Key{Id: textAt(v, "id"), Public: bytesAt(v, "public")}
}

func toRole(v api.Value) api.Role {
	return api.Role{Ids: rowAt(v, "ids", toText), Need: numberAt(v, "need")}
}

func toFile(v api.Value) api.File {
	return api.File{Name: textAt(v, "name"), Version: numberAt(v, "version"), Size: numberAt(v, "size"), Sum: bytesAt(v, "sum")}
}

func toDeleg(v api.Value) api.Deleg {
	return api.Deleg{Name: textAt(v, "name"), Role: toRole(mapAt(v, "role")), Paths: rowAt(v, "paths", toText), Last: numberAt(v, "last") == 1}
}

func toText(v api.Value) string {
	return v.S
}

func mapAt(v api.Value, key string) api.Value {
	item, _ := parse.Field(v, key, api.VMap)
	return item
}

func textAt(v api.Value, key string) string {
	item, _ := parse.Field(v, key, api.VText)
	return item.S
}

func bytesAt(v api.Value, key string) string {
	s, _ := octet.Unhex(textAt(v, key))
	return s
}

func numberAt(v api.Value, key string) int {
	item, _ := parse.Field(v, key, api.VNumber)
	return int(item.N)
}

// rowAt is a row of anything, each one of which a function makes of its value.
func rowAt[T any](v api.Value, key string, to func(api.Value) T) []T {
	item, _ := parse.Field(v, key, api.VList)
	var row []T
	for _, one := range item.Items {
		row = append(row, to(one))
	}
	return row
}
