package role_test

import (
	"fmt"
	"slices"
	"strings"
	"testing"

	"imprimatur/api"
)

// P14.1: at most 16 keys, and none at all.
func TestHowManyKeys(t *testing.T) {
	t.Parallel()
	all := people(40)
	for n := range 41 {
		areRightKeys(t, "so many", keysOf(all[:n]...), n <= most)
		areRightKeys(t, "the last ones", keysOf(all[40-n:]...), n <= most)
	}
	areRightKeys(t, "none", nil, true)
	areRightKeys(t, "none", []api.Key{}, true)
	areRightKeys(t, "an empty one", []api.Key{{}}, false)
	areRightKeys(t, "many", keysOf(people(200)...), false)
	var row []api.Key
	for _, k := range known() {
		row = append(row, api.Key{Id: k.id, Public: unhex(k.public)})
	}
	slices.SortFunc(row, func(a, b api.Key) int { return strings.Compare(a.Id, b.Id) })
	areRightKeys(t, "the known ones", row, true)
}

// sorted is a row of keys in order, with one put in among them.
func sorted(row []api.Key, one api.Key) []api.Key {
	out := append(slices.Clone(row), one)
	slices.SortStableFunc(out, func(a, b api.Key) int { return strings.Compare(a.Id, b.Id) })
	return out
}

// P14.1: a Public has 32 bytes, of whatever kind, also where its sum is right.
func TestPublics(t *testing.T) {
	t.Parallel()
	all := people(16)
	for n := range 130 {
		one := api.Key{Id: idOf(mixed(n)), Public: mixed(n)}
		what := fmt.Sprintf("%d bytes", n)
		areRightKeys(t, what, []api.Key{one}, n == 32)
		areRightKeys(t, what+" among others", sorted(keysOf(all[:15]...), one), n == 32)
		areRightKeys(t, what+" among too many", sorted(keysOf(all...), one), false)
	}
	p := all[0].public
	for _, public := range []string{p[:31], p + "\x00", "\x00" + p, p[1:], p + p, strings.Repeat(p, 1<<14)} {
		one := api.Key{Id: idOf(public), Public: public}
		areRightKeys(t, "another length", []api.Key{one}, false)
		for at := range all {
			row := put(keysOf(all...), at, api.Key{Id: idOf(p[:31]), Public: p[:31]})
			slices.SortFunc(row, func(a, b api.Key) int { return strings.Compare(a.Id, b.Id) })
			areRightKeys(t, "another length among others", row, false)
		}
	}
	for _, public := range []string{strings.Repeat("\x00", 32), strings.Repeat("\xff", 32), "\x01" + strings.Repeat("\x00", 31), "\x02" + strings.Repeat("\x00", 31), strings.Repeat("é", 16), strings.Repeat("a", 32)} {
		areRightKeys(t, "any bytes", []api.Key{{Id: idOf(public), Public: public}}, true)
	}
}

// wrongIds are such as are not a key's sum.
func wrongIds(of, other person) []string {
	id := of.id
	return []string{
		"", id[:63], id + "0", "0" + id, id[1:], id + id, unhex(id), summed(id), of.public, of.seed, other.id, idOf(other.seed), idOf(of.seed), idOf(id), idOf(unhex(id)),
		strings.ToUpper(id), strings.ToUpper(id[:32]) + id[32:], id[:32] + strings.ToUpper(id[32:]), id[:63] + "g", "g" + id[1:], id + "\n", " " + id[1:], strings.Repeat("0", 64), strings.Repeat("f", 64),
	}
}

// P14.1: an Id is the sum of its key.
func TestIdIsTheSum(t *testing.T) {
	t.Parallel()
	all := people(16)
	for i, p := range all {
		row := keysOf(all...)
		list := wrongIds(p, all[(i+1)%16])
		for at := range 64 {
			for _, digit := range []string{"0", "7", "a", "f"} {
				list = append(list, p.id[:at]+digit+p.id[at+1:])
			}
		}
		for _, id := range list {
			one := api.Key{Id: id, Public: p.public}
			areRightKeys(t, "another Id", []api.Key{one}, id == p.id)
			areRightKeys(t, "another Id in its place", put(row, i, one), id == p.id)
			areRightKeys(t, "another Id among others", sorted(slices.Delete(slices.Clone(row), i, i+1), one), id == p.id)
		}
		for bit := range 256 {
			areRightKeys(t, "another Public", put(row, i, api.Key{Id: p.id, Public: turned(p.public, bit)}), false)
		}
		for j, other := range all {
			areRightKeys(t, "another one's Public", put(row, i, api.Key{Id: p.id, Public: other.public}), i == j)
			areRightKeys(t, "another one's Id", put(row, i, api.Key{Id: other.id, Public: p.public}), i == j)
		}
	}
}

// P14.1: each Id is greater than the one ahead of it.
func TestKeyOrder(t *testing.T) {
	t.Parallel()
	for n := 1; n <= 5; n++ {
		row := keysOf(people(n)...)
		for _, keys := range permuted(row) {
			areRightKeys(t, "an order", keys, slices.Equal(keys, row))
		}
	}
	row := keysOf(people(16)...)
	for i := range row {
		for j := range row {
			areRightKeys(t, "one put in another's place", put(row, i, row[j]), i == j)
			areRightKeys(t, "two changed places", put(put(row, i, row[j]), j, row[i]), i == j)
			areRightKeys(t, "there twice", slices.Insert(slices.Clone(row[:15]), j, row[i]), i == 15 && j == 15)
		}
		areRightKeys(t, "alone", row[i:i+1], true)
		areRightKeys(t, "twice", []api.Key{row[i], row[i]}, false)
	}
}
