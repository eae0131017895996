package deleg

import (
	"slices"

	"imprimatur/api"
	"imprimatur/glob"
)

// begin is the role that is asked first. No deleg that may be has its name, so it is the only one that nobody hands paths on to.
const begin = "targets"

// asked is a role that is to be asked, and who must have signed its metadata. That stands beside the name, for several may put one role into the row, each by keys of its own.
type asked struct {
	name string
	role api.Role
	keys []api.Key
}

// look takes role by role off the row. It ends, since each turn either makes the row shorter or sees one role more, of which there are at most MaxVisits.
func look(path string, held map[string]api.Meta) api.Walk {
	row := []asked{{name: begin}}
	var seen []string
	for len(row) > 0 && len(seen) < api.MaxVisits {
		first := row[0]
		row = row[1:]
		if slices.Contains(seen, first.name) {
			continue
		}
		m, ok := held[first.name]
		if !ok {
			return wants(first, seen)
		}
		seen = append(seen, first.name)
		if at := slices.IndexFunc(m.Files, func(f api.File) bool { return f.Name == path }); at >= 0 {
			return api.Walk{State: api.WFound, File: m.Files[at], By: first.name, Seen: seen}
		}
		row = handOn(path, m, row)
	}
	return api.Walk{State: api.WNone, Seen: seen}
}

// wants makes the lists anew, for an answer's lists are none of those that were handed in.
func wants(a asked, seen []string) api.Walk {
	r := api.Role{Ids: slices.Clone(a.role.Ids), Need: a.role.Need}
	return api.Walk{State: api.WWant, Seen: seen, Want: a.name, Role: r, Keys: slices.Clone(a.keys)}
}

// handOn is the row with those ahead of it whom metadata hands a path on to, or these alone, if there is a Last one among them.
func handOn(path string, m api.Meta, row []asked) []asked {
	var ahead []asked
	for _, d := range m.Delegs {
		if !isFor(path, d.Paths...) {
			continue
		}
		ahead = append(ahead, asked{d.Name, d.Role, m.Keys})
		if d.Last {
			return ahead
		}
	}
	return append(ahead, row...)
}

func isFor(path string, patterns ...string) bool {
	_, e := glob.Any(path, patterns...)
	return e == api.OK
}
