package parse_test

import (
	"fmt"
	"slices"
	"strings"
	"testing"

	"imprimatur/api"
	"imprimatur/parse"
)

// has holds that Field answers this value.
func has(t *testing.T, what string, v api.Value, key string, kind int, want api.Value) {
	t.Helper()
	if got, e := parse.Field(v, key, kind); e != api.OK || !same(got, want) {
		t.Errorf("%s: Field of %.20q, kind %d, of %s: %s, %d, not %s", what, key, kind, short(v), short(got), e, short(want))
	}
}

// hasNot holds that Field answers ErrSchema, with no value beside it.
func hasNot(t *testing.T, what string, v api.Value, key string, kind int) {
	t.Helper()
	if got, e := parse.Field(v, key, kind); e != api.ErrSchema || !same(got, api.Value{}) {
		t.Errorf("%s: Field of %.20q, kind %d, of %s: %s, %d", what, key, kind, short(v), short(got), e)
	}
}

// ofEachKind are values of the kinds, with their numbers.
func ofEachKind() []api.Value {
	return []api.Value{num(0), num(-5), text(""), text("abc"), list(), list(num(1), text("b")), keyed(), keyed(pair("", num(1)), pair("b", list()))}
}

// hasJust holds that Field answers this value of a key of its kind, and none of another one.
func hasJust(t *testing.T, what string, v api.Value, key string, want api.Value) {
	t.Helper()
	has(t, what, v, key, want.Kind, want)
	for _, kind := range []int{0, 1, 2, 3, 4, 5, -1, 6, -want.Kind, want.Kind + 1<<32, -1 << 63, 1<<63 - 1} {
		if kind != want.Kind {
			hasNot(t, what+", another kind", v, key, kind)
		}
	}
}

// P12.2: the value of a key, of its kind, and of no other one.
func TestField(t *testing.T) {
	t.Parallel()
	v := api.Value{Kind: 4, Keys: []string{"", " ", "a", "aa", "b", "\x7f", "\x80", "\xff"}, Items: ofEachKind()}
	for i, key := range v.Keys {
		hasJust(t, "one of many", v, key, v.Items[i])
		hasJust(t, "the only one", keyed(pair(key, v.Items[i])), key, v.Items[i])
		hasJust(t, "the first one", keyed(pair(key, v.Items[i]), pair(key+"0", num(0)), pair(key+"1", list())), key, v.Items[i])
		hasJust(t, "the last one", keyed(pair("", num(0)), pair("a", text("0")), pair("z"+key, v.Items[i])), "z"+key, v.Items[i])
	}
	for _, key := range []string{"A", "ab", "aaa", "c", "  ", "a\x00", "\x81", strings.Repeat("a", 5000)} {
		for kind := -1; kind <= 5; kind++ {
			hasNot(t, "no such key", v, key, kind)
			hasNot(t, "no keys", keyed(), key, kind)
			hasNot(t, "another key", keyed(pair("b", num(1))), key, kind)
		}
	}
	for kind := -1; kind <= 5; kind++ {
		hasNot(t, "no empty key", keyed(pair("a", num(1)), pair("b", list())), "", kind)
		hasNot(t, "no keys", keyed(), "", kind)
		hasNot(t, "a key within", keyed(pair("b", keyed(pair("a", num(1))))), "a", kind)
	}
}

// P12.2: of no other kind of value than a map, with the same keys and items or without.
func TestFieldOfOtherKinds(t *testing.T) {
	t.Parallel()
	v := keyed(pair("", num(1)), pair("a", text("b")), pair("c", list(num(1))))
	for _, other := range []int{0, 1, 2, 3, 5, -1, -4, 1<<32 + 4} {
		v.Kind = other
		for _, key := range []string{"", "a", "c", "d"} {
			for kind := -1; kind <= 5; kind++ {
				hasNot(t, "another kind of value", v, key, kind)
			}
		}
	}
	for _, v := range append(ofEachKind(), api.Value{}, text("k"), list(text("k"), num(1)), list(keyed(pair("k", num(1))))) {
		for kind := -1; kind <= 5; kind++ {
			hasNot(t, "no such key", v, "k", kind)
		}
	}
}

// P12.2: of a map that may not be: the first of two same keys; none, if there are not as many keys as items.
func TestFieldOfWhatMayNotBe(t *testing.T) {
	t.Parallel()
	twice := keyed(pair("a", num(1)), pair("b", text("x")), pair("b", num(2)), pair("a", num(3)), pair("", list()))
	has(t, "the first of two", twice, "a", 1, num(1))
	has(t, "the first of two, of unlike kinds", twice, "b", 2, text("x"))
	hasNot(t, "the second of two, of unlike kinds", twice, "b", 1)
	has(t, "a key out of order", twice, "", 3, list())
	for keys := range 5 {
		for items := range 5 {
			v := api.Value{Kind: 4, Keys: []string{"0", "1", "2", "3"}[:keys], Items: []api.Value{num(0), num(1), num(2), num(3)}[:items]}
			for i, key := range []string{"0", "1", "2", "3", "4"} {
				for kind := -1; kind <= 5; kind++ {
					if keys == items && i < keys && kind == 1 {
						has(t, "as many", v, key, 1, num(int64(i)))
					} else {
						hasNot(t, fmt.Sprintf("%d keys, %d items", keys, items), v, key, kind)
					}
				}
			}
		}
	}
	odd := keyed(pair("a", api.Value{Kind: 5, N: 3, S: "x"}), pair("b", api.Value{Kind: 1, S: "y", N: far + 1}), pair("c\x00", text("z\x00")))
	odd.N, odd.S = 7, "q"
	has(t, "a value of kind 5", odd, "a", 5, odd.Items[0])
	has(t, "a number that may not be", odd, "b", 1, odd.Items[1])
	has(t, "a key that may not be", odd, "c\x00", 2, odd.Items[2])
	hasNot(t, "a value of kind 5", odd, "a", 4)
}

// haveJust holds that Fields answers these values.
func haveJust(t *testing.T, what string, v api.Value, keys []string, want ...api.Value) {
	t.Helper()
	if got, e := parse.Fields(v, keys...); e != api.OK || !same(list(got...), list(want...)) {
		t.Errorf("%s: Fields of %.80q of %s: %s, %d, not %s", what, keys, short(v), short(got), e, short(want))
	}
}

// haveNot holds that Fields answers ErrSchema, with no values beside it.
func haveNot(t *testing.T, what string, v api.Value, keys ...string) {
	t.Helper()
	if got, e := parse.Fields(v, keys...); e != api.ErrSchema || len(got) != 0 {
		t.Errorf("%s: Fields of %.80q of %s: %s, %d", what, keys, short(v), short(got), e)
	}
}

// eachOrder goes through all orders of a row.
func eachOrder(keys []string, look func([]string)) {
	if len(keys) == 0 {
		look(nil)
		return
	}
	for i, first := range keys {
		eachOrder(slices.Delete(slices.Clone(keys), i, i+1), func(rest []string) {
			look(append([]string{first}, rest...))
		})
	}
}

// P12.2: all keys, each once, in whatever order: their values in that order; one less, one more, one twice or another one is wrong.
func TestFields(t *testing.T) {
	t.Parallel()
	for _, keys := range [][]string{{}, {"a"}, {""}, {"a", "b"}, {"", "a"}, {"a", "aa", "b"}, {"", " ", "\x7f", "\xff"}, {"delegs", "expires", "files", "keys", "kind"}} {
		v := api.Value{Kind: 4, Keys: keys, Items: ofEachKind()[1:][:len(keys)]}
		haveJust(t, "the map's order", v, keys, v.Items...)
		eachOrder(keys, func(order []string) {
			var want []api.Value
			for _, key := range order {
				want = append(want, v.Items[slices.Index(keys, key)])
			}
			haveJust(t, "any order", v, order, want...)
			for i := range order {
				haveNot(t, "one missing", v, slices.Delete(slices.Clone(order), i, i+1)...)
				for j, other := range order {
					haveNot(t, "one twice", v, slices.Insert(slices.Clone(order), i, other)...)
					if i != j {
						turned := slices.Clone(order)
						turned[i] = other
						haveNot(t, "one twice, in another one's place", v, turned...)
					}
				}
				for _, other := range []string{"c", "A", "aaa", "\x80", "files ", "Kind", "\x00"} {
					turned := slices.Clone(order)
					turned[i] = other
					haveNot(t, "an unknown one", v, turned...)
					haveNot(t, "one more", v, slices.Insert(slices.Clone(order), i, other)...)
				}
			}
			haveNot(t, "one more behind", v, append(slices.Clone(order), "more")...)
			haveNot(t, "two more behind", v, append(slices.Clone(order), "more", "more")...)
			haveNot(t, "all of them twice", keyedTwice(v), order...)
		})
	}
	haveJust(t, "no keys of an empty map", keyed(), nil)
	haveJust(t, "no keys of an empty map", api.Value{Kind: 4, Keys: []string{}, Items: []api.Value{}}, []string{})
	haveNot(t, "no keys of a full map", keyed(pair("a", num(1))))
	haveNot(t, "no keys of a map of an empty key", keyed(pair("", num(1))))
	haveNot(t, "an empty key of an empty map", keyed(), "")
	haveNot(t, "keys of an empty map", keyed(), "a", "b")
	haveNot(t, "keys within", keyed(pair("a", keyed(pair("b", num(1))))), "b")
}

// keyedTwice is a map with each key twice, or, of an empty one, one key twice.
func keyedTwice(v api.Value) api.Value {
	v.Keys = slices.Concat(v.Keys, v.Keys)
	v.Items = slices.Concat(v.Items, v.Items)
	if len(v.Keys) == 0 {
		return keyed(pair("", num(1)), pair("", num(1)))
	}
	return v
}

// P12.2: of no other kind of value than a map, with the same keys and items or without, and of no keys.
func TestFieldsOfOtherKinds(t *testing.T) {
	t.Parallel()
	v := keyed(pair("a", text("b")), pair("c", list(num(1))))
	for _, kind := range []int{0, 1, 2, 3, 5, -1, -4, 1<<32 + 4} {
		v.Kind = kind
		haveNot(t, "another kind of value", v, "a", "c")
		haveNot(t, "another kind of value", v, "c", "a")
		haveNot(t, "another kind of value", v, "a")
		haveNot(t, "another kind of value", v)
		haveNot(t, "no more than another kind", api.Value{Kind: kind})
	}
	for _, v := range []api.Value{{}, num(0), num(2), text(""), text("a"), list(), list(num(1)), list(text("a"), num(1)), list(keyed(pair("a", num(1))))} {
		haveNot(t, "no map", v)
		haveNot(t, "no map", v, "a")
		haveNot(t, "no map", v, "")
	}
}

// P12.2: of a map that may not be: none, if there are not as many keys as items, or a key is there twice.
func TestFieldsOfWhatMayNotBe(t *testing.T) {
	t.Parallel()
	all := []string{"0", "1", "2", "3"}
	for keys := 1; keys <= 4; keys++ {
		for items := range 5 {
			v := api.Value{Kind: 4, Keys: all[:keys], Items: []api.Value{num(0), num(1), num(2), num(3)}[:items]}
			for asked := range 5 {
				what := fmt.Sprintf("%d keys, %d items", keys, items)
				if keys == items && asked == keys {
					haveJust(t, what, v, all[:asked], v.Items...)
				} else {
					haveNot(t, what, v, all[:asked]...)
				}
			}
		}
	}
	for _, v := range []api.Value{
		keyed(pair("a", num(1)), pair("a", num(1))), keyed(pair("a", num(1)), pair("a", num(2))), keyed(pair("a", num(1)), pair("a", num(1)), pair("b", num(1))), keyed(pair("a", num(1)), pair("b", num(1)), pair("a", num(1))),
		keyed(pair("b", num(1)), pair("a", num(1)), pair("a", num(1))), keyed(pair("a", num(1)), pair("a", num(1)), pair("a", num(1))),
	} {
		for _, keys := range [][]string{{}, {"a"}, {"b"}, {"a", "a"}, {"a", "b"}, {"b", "a"}, {"a", "a", "b"}, {"a", "b", "a"}, {"b", "a", "a"}, {"a", "b", "b"}, {"a", "b", "c"}, {"a", "a", "a"}} {
			haveNot(t, "a key that is there twice", v, keys...)
		}
	}
	turned := keyed(pair("c", num(1)), pair("a", text("x")), pair("b", list()))
	haveJust(t, "keys out of order", turned, []string{"a", "b", "c"}, text("x"), list(), num(1))
	odd := keyed(pair("a", api.Value{Kind: 5, N: 3}), pair("b\x00", api.Value{}))
	odd.N, odd.S = 7, "q"
	haveJust(t, "values and a key that may not be", odd, []string{"b\x00", "a"}, api.Value{}, odd.Items[0])
}

// P1, P12.2: many keys, in and out of order, take no long time.
func TestFieldsOfMany(t *testing.T) {
	t.Parallel()
	const n = 200000
	v := api.Value{Kind: 4}
	for i := range n {
		v.Keys = append(v.Keys, fmt.Sprintf("%06d", i))
		v.Items = append(v.Items, num(int64(i)))
	}
	haveJust(t, "many", v, v.Keys, v.Items...)
	keys, items := slices.Clone(v.Keys), slices.Clone(v.Items)
	slices.Reverse(keys)
	slices.Reverse(items)
	haveJust(t, "many, the other way round", v, keys, items...)
	has(t, "the last of many", v, v.Keys[n-1], 1, num(n-1))
	keys[n/2] = keys[n/2+1]
	haveNot(t, "one of many twice", v, keys...)
	haveNot(t, "one of many missing", v, v.Keys[1:]...)
}
