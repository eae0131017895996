package value_test

import (
	"fmt"
	"slices"
	"strings"
	"testing"

	"imprimatur/api"
	"imprimatur/value"
)

// edge is a value at an edge of what may be.
type edge struct {
	what string
	v    api.Value
	may  bool
}

// otherKinds are kinds of no value, with whatever fields.
func otherKinds() []edge {
	var out []edge
	for _, kind := range []int{0, 5, -1, 6, -4, 1<<32 + 1, least, greatest} {
		for i, v := range []api.Value{{}, num(1), text("a"), list(num(1)), keyed(pair("a", num(1)))} {
			v.Kind = kind
			out = append(out, edge{fmt.Sprintf("kind %d, fields %d", kind, i), v, false})
		}
	}
	return out
}

// ordinary are values of each kind, one with no more in it than must be.
func ordinary() []api.Value {
	return []api.Value{
		num(0), num(7), num(-7),
		text(""), text("abc"),
		list(), list(num(1)), list(num(1), text("a"), list()),
		keyed(), keyed(pair("", num(1))), keyed(pair("a", num(1)), pair("b", list(num(2)))),
	}
}

// otherFields are values with something in a field that their kind has not, and with an empty row in it.
func otherFields() []edge {
	var out []edge
	for _, v := range ordinary() {
		has := fields()[v.Kind]
		for field, fill := range map[string]func(*api.Value, int){
			"N": func(v *api.Value, n int) { v.N = []int64{1, -1, greatest, least}[n] },
			"S": func(v *api.Value, n int) { v.S = []string{"a", " ", "\x00", strings.Repeat("a", 4001)}[n] },
			"I": func(v *api.Value, n int) { v.Items = [][]api.Value{{num(0)}, {{}}, {num(1), num(2)}, {list()}}[n] },
			"K": func(v *api.Value, n int) { v.Keys = [][]string{{""}, {"a"}, {"a", "b"}, {"b", "a"}}[n] },
		} {
			for n := range 4 {
				if other := v; !strings.Contains(has, field) {
					fill(&other, n)
					out = append(out, edge{fmt.Sprintf("%s with %s %d", short(v), field, n), other, false})
				}
			}
		}
		out = append(out, edge{short(v) + " with rows that are empty", hollow(v), true})
		out = append(out, edge{short(v) + " with rows that are nil", bare(v), true})
	}
	return out
}

func edgeNumbers() []edge {
	var out []edge
	for _, n := range []int64{0, 1, -1, 9, 10, -10, 1 << 31, 1 << 32, -1 << 32, far - 1, far, 1 - far, -far} {
		out = append(out, edge{fmt.Sprint(n), num(n), true})
	}
	for _, n := range []int64{far + 1, -far - 1, 2 * far, -2 * far, 1 << 62, least, least + 1, greatest, greatest - 1} {
		out = append(out, edge{fmt.Sprint(n), num(n), false})
	}
	return out
}

// spelled are texts that may be, and such as may not, by what they are.
func spelled() map[string]bool {
	out := map[string]bool{}
	for _, n := range []int{0, 1, 2, 3, 10, 3999, 4000} {
		out[strings.Repeat("b", n)] = true
		out[strings.Repeat("\xc3\xa4", n/2)] = true
		out[strings.Repeat(`"`, n)] = true
	}
	for _, n := range []int{4001, 4002, 8000, 1 << 17} {
		out[strings.Repeat("b", n)] = false
		out[strings.Repeat("\xff", n)] = false
	}
	for _, n := range []int{1, 2, 3, 10, 3999, 4000, 4001} {
		for _, at := range []int{0, n / 2, n - 1} {
			for _, b := range []byte{0, 1, 9, 10, 31, 32, 33, '"', '\\', 127, 128, 159, 255} {
				s := []byte(strings.Repeat("b", n))
				s[at] = b
				out[string(s)] = b >= 32 && n <= 4000
			}
		}
	}
	for b := range 256 {
		out[string([]byte{byte(b)})] = b >= 32
	}
	return out
}

// edgeTexts are texts, alone and as keys: the only one, one at each place of three.
func edgeTexts() []edge {
	var out []edge
	for s, may := range spelled() {
		what := fmt.Sprintf("%d bytes, %.20q", len(s), s)
		out = append(out,
			edge{"a text of " + what, text(s), may},
			edge{"a key of " + what, keyed(pair(s, num(1))), may})
		for at := range 3 {
			v := keyed(pair("0", num(1)), pair("1", num(2)), pair("2", num(3)))
			v.Keys[at] += s
			out = append(out, edge{fmt.Sprintf("key %d, behind a digit, of %s", at, what), v, may && len(s) < 4000})
		}
	}
	return out
}

// edgeKeys are rows of keys, in order or not, and so many as items or not.
func edgeKeys() []edge {
	var out []edge
	for _, keys := range [][]string{
		{"a", "b"}, {"", "a"}, {"", " "}, {"a", "aa"}, {"a", "a "}, {"aa", "b"}, {"B", "a"}, {"10", "9"}, {"a", "b", "c"}, {"", "a", "aa", "aaa"},
		{"\x7f", "\x80"}, {"\x80", "\xff"}, {"a", "\xff"}, {"\xfe", "\xff"}, {"z", "\xc3\xa4"}, {"\xc3\xa4", "\xc3\xb6"}, {"a\x7f", "a\x80"}, {"\xef\xbf\xbd", "\xf0"}, {"\x80", "\xef\xbf\xbd"}, {"a\xff", "b"},
	} {
		v := byPlace(numbers(len(keys))...)
		v.Keys = keys
		out = append(out, edge{fmt.Sprintf("keys %q", keys), v, true})
		turned := slices.Clone(keys)
		slices.Reverse(turned)
		v.Keys = turned
		out = append(out, edge{fmt.Sprintf("keys %q", turned), v, false})
		for at := range keys {
			v.Keys = slices.Insert(slices.Clone(keys), at, keys[at])
			v.Items = numbers(len(keys) + 1)
			out = append(out, edge{fmt.Sprintf("keys %q", v.Keys), v, false})
		}
	}
	for _, keys := range [][]string{{"", ""}, {"a", "b", "a"}, {"b", "a", "c"}, {"a", "c", "b"}, {"a", "b", "b", "c"}, {"a", "b", "c", ""}, {"b", "b"}} {
		v := byPlace(numbers(len(keys))...)
		v.Keys = keys
		out = append(out, edge{fmt.Sprintf("keys %q", keys), v, false})
	}
	for keys := range 5 {
		for items := range 5 {
			v := byPlace(numbers(items)...)
			v.Keys = byPlace(numbers(keys)...).Keys
			out = append(out, edge{fmt.Sprintf("%d keys, %d items", keys, items), v, keys == items})
		}
	}
	return out
}

// edgeDepths are values of depths about the greatest, by rows that stand alone in one another, and beside others.
func edgeDepths() []edge {
	var out []edge
	for deep := 1; deep <= 30; deep++ {
		may := deep <= deepest
		for what, row := range rows() {
			out = append(out,
				edge{fmt.Sprintf("%s, empty, %d deep", what, deep), within(row(), deep-1, row), may},
				edge{fmt.Sprintf("%s of a number, %d deep", what, deep), within(num(1), deep-1, row), may},
				edge{fmt.Sprintf("%s of a text, %d deep, behind flat ones", what, deep), within(text("a"), deep-1, func(items ...api.Value) api.Value {
					return row(append([]api.Value{num(1), list()}, items...)...)
				}), may},
				edge{fmt.Sprintf("%s of a text, %d deep, ahead of flat ones", what, deep), within(text("a"), deep-1, func(items ...api.Value) api.Value {
					return row(append(items, num(1), text(""))...)
				}), may})
		}
		out = append(out, edge{fmt.Sprintf("mixed, %d deep", deep), within(num(1), deep-1, mixedRow()), may})
	}
	return out
}

// spread are so many values in all, in rows of at most so many, which stand in one row.
func spread(total, wide int, row func(...api.Value) api.Value) api.Value {
	var in []api.Value
	for left := total - 1; left > 0; {
		n := min(left-1, wide)
		in = append(in, row(numbers(n)...))
		left -= n + 1
	}
	return row(in...)
}

// chained are so many in all, with the same number of flat ones in each row, and the rest in the innermost.
func chained(total, wide int, last bool, row func(...api.Value) api.Value) api.Value {
	if total-1 <= wide {
		return row(numbers(total - 1)...)
	}
	inner := chained(total-1-wide, wide, last, row)
	if last {
		return row(append(numbers(wide), inner)...)
	}
	return row(append([]api.Value{inner}, numbers(wide)...)...)
}

// edgeNumbersInAll are values of so many in all about the greatest number.
func edgeNumbersInAll() []edge {
	var out []edge
	for _, total := range []int{1998, 1999, 2000, 2001, 2002, 2012, 4000, 10000} {
		may := total <= most
		for what, row := range rows() {
			out = append(out, edge{fmt.Sprintf("%s, %d in one row", what, total), row(numbers(total - 1)...), may})
			for _, wide := range []int{0, 1, 2, 43, 500, 998, 999, 1000, 1995} {
				out = append(out, edge{fmt.Sprintf("%s, %d in rows of %d", what, total, wide), spread(total, wide, row), may})
			}
			for _, last := range []bool{true, false} {
				out = append(out,
					edge{fmt.Sprintf("%s, %d in 10 rows, one in another", what, total), chained(total, total/10, last, row), may},
					edge{fmt.Sprintf("%s, %d in 2 rows, one in another", what, total), chained(total, total/2, last, row), may})
			}
		}
		out = append(out, edge{fmt.Sprintf("%d in 10 rows, of both kinds", total), chained(total, total/10, true, mixedOne()), may})
	}
	return out
}

// mixedOne is a list and values by keys in turn, of just what stands in it.
func mixedOne() func(...api.Value) api.Value {
	n := 0
	return func(items ...api.Value) api.Value {
		n++
		if n%2 == 0 {
			return list(items...)
		}
		return byPlace(items...)
	}
}

// edgeItems are values in which a few others stand: at each place of a row, and deep within.
func edgeItems() []edge {
	var out []edge
	for _, e := range []edge{
		{"nothing", api.Value{}, false},
		{"kind 5", api.Value{Kind: 5}, false},
		{"a great number", num(far + 1), false},
		{"a number with a text", api.Value{Kind: 1, S: "a"}, false},
		{"a text with a byte below 32", text("a\x1f"), false},
		{"a long text", text(strings.Repeat("a", 4001)), false},
		{"a list with keys", api.Value{Kind: 3, Items: numbers(1), Keys: []string{"a"}}, false},
		{"keys in the wrong order", keyed(pair("b", num(1)), pair("a", num(2))), false},
		{"a key without an item", api.Value{Kind: 4, Keys: []string{"a"}}, false},
		{"the greatest number", num(far), true},
		{"the longest text", text(strings.Repeat("\xff", 4000)), true},
		{"a list", list(num(1), list()), true},
		{"keys", keyed(pair("", num(1)), pair("a", keyed())), true},
	} {
		for what, row := range rows() {
			for _, many := range []int{1, 2, 3, 7} {
				for at := range many {
					items := numbers(many)
					items[at] = e.v
					for _, levels := range []int{0, 1, 2, 8} {
						out = append(out, edge{fmt.Sprintf("%s, as item %d of %d (%s), %d levels deep", e.what, at, many, what, levels), within(row(items...), levels, row), e.may})
					}
				}
			}
		}
		out = append(out, edge{e.what + ", deep in rows of both kinds", within(e.v, 9, mixedRow()), e.may})
	}
	return out
}

// edges are all of the values above.
func edges() []edge {
	return slices.Concat(otherKinds(), otherFields(), edgeNumbers(), edgeTexts(), edgeKeys(), edgeDepths(), edgeNumbersInAll(), edgeItems())
}

// P11.1: Right, of all that stands at an edge, by what is told of it here and by the chapter's word.
func TestRight(t *testing.T) {
	t.Parallel()
	for _, v := range ordinary() {
		if !value.Right(v) || !mayBe(v) {
			t.Errorf("%s may not be", short(v))
		}
	}
	may := 0
	for _, e := range edges() {
		if got, word := value.Right(e.v), mayBe(e.v); got != e.may || word != e.may {
			t.Errorf("%s: Right %t, by the chapter's word %t, not %t", e.what, got, word, e.may)
		}
		if e.may {
			may++
		}
	}
	if n := len(edges()); may < 1000 || n-may < 1000 {
		t.Errorf("%d of %d may be", may, n)
	}
}

// P11.1: each edge stands in a row as well: what may not be, may not be there.
func TestRightOfWhatStandsInARow(t *testing.T) {
	t.Parallel()
	for _, e := range edges() {
		for what, row := range rows() {
			for at := range 3 {
				items := numbers(3)
				items[at] = e.v
				v := row(items...)
				want := e.may && depthOf(e.v) < deepest && countOf(e.v) <= most-3
				if got := value.Right(v); got != want {
					t.Errorf("%s, as item %d (%s): Right %t, not %t", e.what, at, what, got, want)
				}
			}
		}
	}
}

// P1, P11.1: what is far too great may not be, and it does not take long to say so: rows that stand in one another again and again are more than could be gone through.
func TestRightOfFarTooMany(t *testing.T) {
	t.Parallel()
	for what, row := range rows() {
		for _, size := range []struct{ wide, levels int }{
			{2, 11}, {2, 13}, {2, 1000}, {3, 11}, {3, 60}, {45, 11}, {45, 60}, {1999, 2}, {1999, 11}, {2000, 1}, {2000, 11}, {2000, 60}, {100000, 1}, {100000, 11},
		} {
			v := within(num(1), size.levels, func(items ...api.Value) api.Value {
				return row(slices.Repeat(items, size.wide)...)
			})
			if value.Right(v) {
				t.Errorf("%s: %d levels of %d may be", what, size.levels, size.wide)
			}
			if got, e := value.Print(v); got != "" || e != api.ErrArg {
				t.Errorf("%s: %d levels of %d: Print %.80q, %d", what, size.levels, size.wide, got, e)
			}
		}
	}
}

// P1, P11.1: a value that holds itself is none; each call ends with it, and says so.
func TestWhatHoldsItself(t *testing.T) {
	t.Parallel()
	for what, v := range holdsItself() {
		if value.Right(v) {
			t.Errorf("%s: it may be", what)
		}
		if got, e := value.Print(v); got != "" || e != api.ErrArg {
			t.Errorf("%s: Print %.80q, %d", what, got, e)
		}
		if many, deep := value.Count(v), value.Depth(v); many != 0 || deep != 0 {
			t.Errorf("%s: Count %d, Depth %d", what, many, deep)
		}
		again := holdsItself()[what]
		if value.Same(v, v) || value.Same(v, again) || value.Same(again, v) || value.Same(v, num(1)) || value.Same(list(), v) {
			t.Errorf("%s: it is the same as something", what)
		}
		if w := value.List(v, num(1)); w.Kind != 3 || len(w.Items) != 2 || len(w.Items[0].Items) != len(v.Items) {
			t.Errorf("%s: List has %d items", what, len(w.Items))
		}
		w, e := value.Map(pair("b", v), pair("a", num(1)))
		if got, is := value.Get(w, "b"); e != api.OK || !is || len(got.Items) != len(v.Items) {
			t.Errorf("%s: Map and Get: %d items, %t, %d", what, len(got.Items), is, e)
		}
	}
}
