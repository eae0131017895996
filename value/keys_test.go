package value_test

import (
	"fmt"
	"math/rand"
	"slices"
	"strings"
	"testing"

	"imprimatur/api"
	"imprimatur/value"
)

// gets holds that Get answers this value of a key.
func gets(t *testing.T, what string, v api.Value, key string, want api.Value) {
	t.Helper()
	for _, v := range []api.Value{v, hollow(v)} {
		if got, is := value.Get(v, key); !is || !same(got, want) {
			t.Errorf("%s: Get %.20q: %s, %t, not %s", what, key, short(got), is, short(want))
		}
	}
}

// getsNone holds that Get answers that there is none, with no value beside it.
func getsNone(t *testing.T, what string, v api.Value, key string) {
	t.Helper()
	for _, v := range []api.Value{v, bare(v), hollow(v)} {
		if got, is := value.Get(v, key); is || !same(got, api.Value{}) || len(got.Items)+len(got.Keys) > 0 {
			t.Errorf("%s: Get %.20q: %s, %t", what, key, short(got), is)
		}
	}
}

// P11.2: the item of each key, and none of any other one.
func TestGet(t *testing.T) {
	t.Parallel()
	v := keyed(
		pair("", num(1)), pair(" ", text("")), pair("B", list(num(3))), pair("a", num(4)), pair("a\"", keyed(pair("a", num(40)))),
		pair("aa", num(5)), pair("b", num(0)), pair("\x7f", num(7)), pair("\x80", num(8)), pair("\xff", num(9)))
	for i, key := range v.Keys {
		gets(t, "a key", v, key, v.Items[i])
		gets(t, "the only key", keyed(pair(key, v.Items[i])), key, v.Items[i])
	}
	for _, key := range []string{"A", "aaa", "ab", "c", "a ", "\x00", "\x81", "\xff\xff", "  ", "a\\\"", strings.Repeat("a", 4000)} {
		getsNone(t, "no key", v, key)
		getsNone(t, "no keys", keyed(), key)
		getsNone(t, "another key", keyed(pair("b", num(1))), key)
	}
	getsNone(t, "no empty key", keyed(pair("a", num(1)), pair("b", num(2))), "")
	getsNone(t, "no keys", keyed(), "")
	getsNone(t, "a key deep within", keyed(pair("b", keyed(pair("a", num(1))))), "a")
}

// P11.2: of another kind there is none, with the same keys and items.
func TestGetOfOtherKinds(t *testing.T) {
	t.Parallel()
	v := keyed(pair("", num(1)), pair("a", num(2)), pair("b", list()))
	for _, kind := range []int{0, 1, 2, 3, 5, -1, -4, 1<<32 + 4, least, greatest} {
		v.Kind = kind
		for _, key := range []string{"", "a", "b", "c"} {
			getsNone(t, fmt.Sprintf("kind %d", kind), v, key)
		}
	}
	for _, v := range []api.Value{{}, num(1), text("a"), list(), list(num(1), text("a"))} {
		getsNone(t, short(v), v, "a")
		getsNone(t, short(v), v, "")
	}
}

// P11.2: as many keys as items, not more, not fewer, whatever else may not be.
func TestGetOfWhatMayNotBe(t *testing.T) {
	t.Parallel()
	for keys := range 5 {
		for items := range 5 {
			v := byPlace(numbers(items)...)
			v.Keys = byPlace(numbers(keys)...).Keys
			for i := range 5 {
				key := fmt.Sprintf("%06d", i)
				if keys == items && i < items {
					gets(t, "as many", v, key, num(int64(i)))
				} else {
					getsNone(t, fmt.Sprintf("%d keys, %d items", keys, items), v, key)
				}
			}
		}
	}
	twice := keyed(pair("a", num(1)), pair("b", num(2)), pair("b", num(3)), pair("a", num(4)), pair("b", num(5)))
	gets(t, "the first of two keys", twice, "a", num(1))
	gets(t, "the first of three keys", twice, "b", num(2))
	gets(t, "two empty keys", keyed(pair("", text("x")), pair("", num(3))), "", text("x"))
	turned := keyed(pair("c", num(1)), pair("b", num(2)), pair("a", num(3)))
	for i, key := range turned.Keys {
		gets(t, "keys in the wrong order", turned, key, turned.Items[i])
	}
	bad := keyed(pair("a\x00", api.Value{Kind: 9, N: 5, Keys: []string{"x"}}), pair(strings.Repeat("k", 5000), num(far+1)))
	bad.N, bad.S = 6, "text"
	for i, key := range bad.Keys {
		gets(t, "keys and items that may not be", bad, key, bad.Items[i])
	}
	getsNone(t, "what may not be", bad, "a")
	gets(t, "an item of no kind", keyed(pair("a", api.Value{})), "a", api.Value{})
}

// maps holds that Map answers values by these keys, and no more.
func maps(t *testing.T, what string, pairs []api.Pair, want api.Value) {
	t.Helper()
	if got, e := value.Map(pairs...); e != api.OK || !same(got, want) {
		t.Errorf("%s: Map %s, %d, not %s", what, short(got), e, short(want))
	}
}

// mapsNot holds that Map answers ErrOrder, with no value beside it.
func mapsNot(t *testing.T, what string, pairs []api.Pair) {
	t.Helper()
	if got, e := value.Map(pairs...); e != api.ErrOrder || !same(got, api.Value{}) || len(got.Items)+len(got.Keys) > 0 {
		t.Errorf("%s: Map %s, %d, not ErrOrder", what, short(got), e)
	}
}

// eachOrder goes through all orders of pairs.
func eachOrder(pairs []api.Pair, look func([]api.Pair)) {
	if len(pairs) == 0 {
		look(nil)
		return
	}
	for i, first := range pairs {
		eachOrder(slices.Delete(slices.Clone(pairs), i, i+1), func(rest []api.Pair) {
			look(append([]api.Pair{first}, rest...))
		})
	}
}

// keyRows are rows of keys in their order.
func keyRows() [][]string {
	return [][]string{
		{}, {"a"}, {""}, {"a", "b"}, {"", "a", "aa", "b"}, {"10", "9", "A", "a"}, {" ", "!", "\"", "\\", "~"},
		{"a", "\x7f", "\x80", "\xff"}, {"z", "\xc3\xa4", "\xc3\xb6", "\xe2\x82\xac"}, {"\x80", "\xef\xbf\xbd", "\xf0\x9f"}, {"a\x7f", "a\x80", "a\xff", "b"},
		{"\x00", "\x00\x00", "\x1f", " "}, {strings.Repeat("a", 3999), strings.Repeat("a", 4000), strings.Repeat("a", 4001), strings.Repeat("a", 9000)},
	}
}

// P11.2: values by keys in their order, in whatever order they are handed in.
func TestMap(t *testing.T) {
	t.Parallel()
	maps(t, "no pairs", nil, keyed())
	maps(t, "no pairs", []api.Pair{}, keyed())
	maps(t, "the chapter's example", []api.Pair{pair("b", num(-2)), pair("a", list())}, keyed(pair("a", list()), pair("b", num(-2))))
	for _, keys := range keyRows() {
		var pairs []api.Pair
		for i, key := range keys {
			pairs = append(pairs, pair(key, []api.Value{num(int64(-i)), text(key), list(num(int64(i))), byPlace(text(key), num(1))}[i%4]))
		}
		want := keyed(pairs...)
		eachOrder(pairs, func(pairs []api.Pair) {
			maps(t, fmt.Sprintf("keys %.80q", keys), pairs, want)
		})
	}
}

// P11.2: many pairs, in any order.
func TestMapOfMany(t *testing.T) {
	t.Parallel()
	r := rand.New(rand.NewSource(11))
	for _, n := range []int{10, 11, 12, 13, 50, 1999, 2000, 2001, 20000} {
		want := byPlace(numbers(n)...)
		var pairs []api.Pair
		for i, key := range want.Keys {
			pairs = append(pairs, pair(key, want.Items[i]))
		}
		maps(t, "in order", pairs, want)
		slices.Reverse(pairs)
		maps(t, "in reverse", pairs, want)
		for range 5 {
			r.Shuffle(n, func(i, j int) { pairs[i], pairs[j] = pairs[j], pairs[i] })
			maps(t, "in any order", pairs, want)
			twice := slices.Insert(slices.Clone(pairs), r.Intn(n+1), pairs[r.Intn(n)])
			mapsNot(t, "one of many twice", twice)
		}
	}
}

// P11.2: of pairs of one key there are no values, whether they stand side by side or apart, have the same values or not.
func TestMapOfOneKeyTwice(t *testing.T) {
	t.Parallel()
	for _, key := range []string{"", "a", "b", "c", "\x80", "\xff", "\x00", strings.Repeat("k", 5000)} {
		for _, v := range []api.Value{num(1), num(2), text("a"), list(), {}} {
			one, other := pair(key, num(1)), pair(key, v)
			mapsNot(t, "two of one key", []api.Pair{one, other})
			mapsNot(t, "two of one key", []api.Pair{other, one})
			eachOrder([]api.Pair{one, other, pair("bb", num(1)), pair("\x7f", v)}, func(pairs []api.Pair) {
				mapsNot(t, "two of one key among others", pairs)
			})
			eachOrder([]api.Pair{one, other, one}, func(pairs []api.Pair) {
				mapsNot(t, "three of one key", pairs)
			})
		}
	}
	two := []api.Pair{pair("a", num(1)), pair("b", num(1)), pair("a", num(2)), pair("b", num(2))}
	eachOrder(two, func(pairs []api.Pair) { mapsNot(t, "twice two of one key", pairs) })
	// Keys that are nearly one another are two.
	for _, near := range [][2]string{{"a", "A"}, {"a", "a "}, {"a", " a"}, {"", " "}, {"a", "aa"}, {"\x80", "\x81"}, {"\xff", "\xfe"}, {"\xc3", "\xc3\xa4"}, {"\x00", ""}, {"\x80", "\xef\xbf\xbd"}} {
		pairs := []api.Pair{pair(near[0], num(1)), pair(near[1], num(1))}
		if got, e := value.Map(pairs...); e != api.OK || len(got.Keys) != 2 || len(got.Items) != 2 {
			t.Errorf("%q: Map %s, %d", near, short(got), e)
		}
	}
}

// P11.2: keys and values that may not be are taken as they are: whether the whole may be, is for Right to tell.
func TestMapOfWhatMayNotBe(t *testing.T) {
	t.Parallel()
	for _, e := range edges() {
		v := keyed(pair("", num(1)), pair("a", e.v), pair("b", e.v))
		got, err := value.Map(pair("b", e.v), pair("", num(1)), pair("a", e.v))
		if err != api.OK || !same(got, v) {
			t.Errorf("%s: Map %s, %d", e.what, short(got), err)
		}
		if got := value.List(e.v, num(1), e.v); !same(got, list(e.v, num(1), e.v)) {
			t.Errorf("%s: List %s", e.what, short(got))
		}
	}
	for s, may := range spelled() {
		got, err := value.Map(pair(s, num(1)))
		if err != api.OK || !same(got, keyed(pair(s, num(1)))) || value.Right(got) != may {
			t.Errorf("key %.20q: Map %s, %d", s, short(got), err)
		}
		if v := value.Text(s); !same(v, text(s)) || value.Right(v) != may {
			t.Errorf("Text of %.20q: %s", s, short(v))
		}
	}
}

// P11.2: List, Text and Number are of their kinds, with what they were handed and nothing else.
func TestListTextNumber(t *testing.T) {
	t.Parallel()
	for _, n := range []int{0, 1, 2, 3, 10, 1999, 2000, 5000} {
		if got := value.List(numbers(n)...); !same(got, list(numbers(n)...)) || value.Right(got) != (n < most) {
			t.Errorf("List of %d: %s", n, short(got))
		}
	}
	for _, v := range append(ordinary(), full(), api.Value{}) {
		if got := value.List(v); !same(got, list(v)) {
			t.Errorf("List of %s: %s", short(v), short(got))
		}
		if got := value.List(v, num(1), v); !same(got, list(v, num(1), v)) {
			t.Errorf("List of %s and others: %s", short(v), short(got))
		}
	}
	if got := value.List(); !same(got, list()) || !value.Right(got) {
		t.Errorf("List of nothing: %s", short(got))
	}
	for _, n := range []int64{0, 1, -1, 42, far - 1, far, far + 1, -far - 1, -far, 1 - far, least, greatest} {
		if got := value.Number(n); !same(got, num(n)) || value.Right(got) != (n >= -far && n <= far) {
			t.Errorf("Number of %d: %s", n, short(got))
		}
	}
	for _, s := range []string{"", "a", "abc", `"`, "\x00", "\xff\xfe"} {
		if got := value.Text(s); !same(got, text(s)) {
			t.Errorf("Text of %q: %s", s, short(got))
		}
	}
}
