package meta_test

import (
	"fmt"
	"slices"
	"strings"
	"testing"

	"imprimatur/api"
)

// P15.1: four roles, no fewer and no more.
func TestHowManyRoles(t *testing.T) {
	t.Parallel()
	for _, m := range []api.Meta{root(), bare()[0], full()[0]} {
		for n := range 20 {
			roles := slices.Repeat(m.Roles, 5)[:n]
			holds(t, fmt.Sprint(n, " roles"), with(m, func(m *api.Meta) { m.Roles = roles }), n == 4)
		}
		holds(t, "roles that are empty", with(m, func(m *api.Meta) { m.Roles = []api.Role{} }), false)
		holds(t, "no roles", with(m, func(m *api.Meta) { m.Roles = nil }), false)
	}
}

// rolesThatMayNotBe are such.
func rolesThatMayNotBe() []api.Role {
	keys := keyRow(17)
	good := roleBy(1, keys[:2]...)
	id := keys[0].Id
	return []api.Role{
		{}, {Need: 1}, {Ids: []string{}, Need: 0}, {Ids: good.Ids}, {Ids: good.Ids, Need: -1}, {Ids: good.Ids, Need: 3}, {Ids: good.Ids, Need: latest}, {Ids: good.Ids, Need: 1<<32 + 1},
		roleBy(1, keys...), roleBy(17, keys...), roleBy(1, keys[1], keys[0]), roleBy(1, keys[0], keys[0]),
		{Ids: []string{id[:63]}, Need: 1}, {Ids: []string{id + "0"}, Need: 1}, {Ids: []string{"A" + id[1:]}, Need: 1}, {Ids: []string{"g" + id[1:]}, Need: 1}, {Ids: []string{""}, Need: 1}, {Ids: []string{bytes(id)}, Need: 1},
	}
}

// P15.1: one role that may not be, at each place.
func TestRolesThatMayNotBe(t *testing.T) {
	t.Parallel()
	for i, r := range rolesThatMayNotBe() {
		for _, m := range []api.Meta{root(), full()[0]} {
			for at := range 4 {
				holds(t, fmt.Sprintf("role %d that may not be, at %d", i, at), with(m, func(m *api.Meta) { m.Roles[at] = r }), false)
			}
			holds(t, "all that", with(m, func(m *api.Meta) { m.Roles = []api.Role{r, r, r, r} }), false)
		}
	}
}

// P15.1: roles in any order, of any keys, also of such as Keys has not.
func TestRolesOfAnyKeys(t *testing.T) {
	t.Parallel()
	m := root()
	for i := range 4 {
		for j := range 4 {
			holds(t, "two changed places", with(m, func(m *api.Meta) { m.Roles = swapped(m.Roles, i, j) }), true)
			holds(t, "twice the same", with(m, func(m *api.Meta) { m.Roles = put(m.Roles, i, m.Roles[j]) }), true)
		}
	}
	for n := range 6 {
		holds(t, "fewer keys", with(m, func(m *api.Meta) { m.Keys = m.Keys[:n] }), true)
	}
	holds(t, "roles of other keys", with(m, func(m *api.Meta) { m.Keys = keyRow(16)[7:] }), true)
}

// keysThatMayNotBe are such rows.
func keysThatMayNotBe() [][]api.Key {
	k := keyRow(17)
	short := api.Key{Id: hexed(summed(k[0].Public[:31])), Public: k[0].Public[:31]}
	long := api.Key{Id: hexed(summed(k[0].Public + "\x00")), Public: k[0].Public + "\x00"}
	return [][]api.Key{
		k, swapped(k[:2], 0, 1), swapped(k[:16], 14, 15), {k[0], k[0]}, {{}}, {{Id: k[0].Id}}, {{Public: k[0].Public}}, {short}, {long},
		{{Id: k[1].Id, Public: k[0].Public}}, {{Id: strings.ToUpper(k[0].Id), Public: k[0].Public}}, {{Id: k[0].Id[:63], Public: k[0].Public}}, {k[0], {}}, append(k[:15:15], short),
	}
}

// P15.1: keys that may not be, of root and of targets.
func TestKeysThatMayNotBe(t *testing.T) {
	t.Parallel()
	for i, keys := range keysThatMayNotBe() {
		for _, m := range []api.Meta{root(), targets(), bare()[0], bare()[3], full()[3]} {
			holds(t, fmt.Sprint("keys that may not be, ", i), with(m, func(m *api.Meta) { m.Keys = keys }), false)
		}
	}
}

// P15.1: none to 16 keys, of root and of targets.
func TestHowManyKeys(t *testing.T) {
	t.Parallel()
	for n := range 20 {
		for _, m := range []api.Meta{root(), targets()} {
			holds(t, fmt.Sprint(n, " keys"), with(m, func(m *api.Meta) { m.Keys = keyRow(n) }), n <= 16)
		}
	}
}

// P15.1: Log has 32 bytes, of whatever kind.
func TestLogs(t *testing.T) {
	t.Parallel()
	for n := range 70 {
		for _, of := range []string{"\x00", "a", "\xff"} {
			holds(t, fmt.Sprint(n, " bytes of Log"), with(root(), func(m *api.Meta) { m.Log = strings.Repeat(of, n) }), n == 32)
		}
	}
	for _, log := range []string{hexed(summed("log")), strings.Repeat("é", 16), strings.Repeat("\"", 32), strings.Repeat("\\", 32), strings.Repeat("\x0a", 32), summed("log")[:31] + "\x00"} {
		holds(t, "a Log", with(root(), func(m *api.Meta) { m.Log = log }), len(log) == 32)
	}
}
