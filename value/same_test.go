package value_test

import (
	"fmt"
	"slices"
	"strings"
	"testing"

	"imprimatur/api"
	"imprimatur/value"
)

// full has something in each of its fields, so that it may not be.
func full() api.Value {
	return api.Value{
		Kind:  4,
		N:     5,
		S:     "abc",
		Items: []api.Value{num(1), text("a"), list(num(2), num(3)), byPlace(num(4))},
		Keys:  []string{"a", "b", "bc", "d"},
	}
}

// unlike are others of v, each with one thing in it that is another one.
func unlike(v api.Value) map[string]api.Value {
	out := map[string]api.Value{}
	put := func(what string, change func(*api.Value)) {
		w := v
		w.Items, w.Keys = slices.Clone(v.Items), slices.Clone(v.Keys)
		change(&w)
		out[what] = w
	}
	for _, n := range []int{1, 2, -3, 1 << 32} {
		put(fmt.Sprintf("kind and %d", n), func(w *api.Value) { w.Kind += n })
		put(fmt.Sprintf("number and %d", n), func(w *api.Value) { w.N += int64(n) })
	}
	put("number below 0", func(w *api.Value) { w.N = -w.N - 1 })
	put("a byte behind the text", func(w *api.Value) { w.S += "\x00" })
	put("a byte ahead of the text", func(w *api.Value) { w.S = " " + w.S })
	put("an item more", func(w *api.Value) { w.Items = append(w.Items, api.Value{}) })
	put("an item more ahead", func(w *api.Value) { w.Items = slices.Insert(w.Items, 0, num(1)) })
	put("a key more", func(w *api.Value) { w.Keys = append(w.Keys, "") })
	put("a key more ahead", func(w *api.Value) { w.Keys = slices.Insert(w.Keys, 0, "") })
	put("an item and a key more", func(w *api.Value) { w.Items, w.Keys = append(w.Items, num(1)), append(w.Keys, "z") })
	if len(v.S) > 0 {
		put("no text", func(w *api.Value) { w.S = "" })
		put("another last byte", func(w *api.Value) { w.S = turnedByte(w.S, len(w.S)-1) })
		put("another first byte", func(w *api.Value) { w.S = turnedByte(w.S, 0) })
		put("a byte less", func(w *api.Value) { w.S = w.S[1:] })
	}
	for i := range v.Items {
		put(fmt.Sprintf("item %d less", i), func(w *api.Value) { w.Items = slices.Delete(w.Items, i, i+1) })
		put(fmt.Sprintf("item %d in a list", i), func(w *api.Value) { w.Items[i] = list(w.Items[i]) })
		put(fmt.Sprintf("item %d of another kind", i), func(w *api.Value) { w.Items[i].Kind++ })
		put(fmt.Sprintf("item %d of another number", i), func(w *api.Value) { w.Items[i].N++ })
		put(fmt.Sprintf("item %d with another text", i), func(w *api.Value) { w.Items[i].S += "b" })
		put(fmt.Sprintf("item %d with an item more", i), func(w *api.Value) { w.Items[i] = list(append(slices.Clone(w.Items[i].Items), num(1))...) })
		if i > 0 && !same(v.Items[i-1], v.Items[i]) {
			put(fmt.Sprintf("items %d and %d changed over", i-1, i), func(w *api.Value) { w.Items[i-1], w.Items[i] = w.Items[i], w.Items[i-1] })
		}
	}
	for i := range v.Keys {
		put(fmt.Sprintf("key %d less", i), func(w *api.Value) { w.Keys = slices.Delete(w.Keys, i, i+1) })
		put(fmt.Sprintf("key %d longer", i), func(w *api.Value) { w.Keys[i] += "\x00" })
		put(fmt.Sprintf("key %d in capitals", i), func(w *api.Value) { w.Keys[i] += "A" })
		if i > 0 && v.Keys[i-1] != v.Keys[i] {
			put(fmt.Sprintf("keys %d and %d changed over", i-1, i), func(w *api.Value) { w.Keys[i-1], w.Keys[i] = w.Keys[i], w.Keys[i-1] })
		}
	}
	if len(v.Items) > 0 {
		put("no items", func(w *api.Value) { w.Items = nil })
	}
	if len(v.Keys) > 0 {
		put("no keys", func(w *api.Value) { w.Keys = nil })
	}
	return out
}

// turnedByte is s with another byte at a place.
func turnedByte(s string, at int) string {
	b := []byte(s)
	b[at] ^= 0x81
	return string(b)
}

// sameIs holds that Same answers what is told here, both ways round, whether rows that are empty are nil or not.
func sameIs(t *testing.T, what string, v, w api.Value, want bool) {
	t.Helper()
	for _, a := range []api.Value{v, bare(v), hollow(v)} {
		for _, b := range []api.Value{w, bare(w), hollow(w)} {
			if value.Same(a, b) != want || value.Same(b, a) != want {
				t.Errorf("%s: Same of %s and %s is not %t", what, short(a), short(b), want)
			}
		}
	}
}

// P11.1: two that have one thing that is another one are not the same, whatever may be.
func TestSame(t *testing.T) {
	t.Parallel()
	list := append(ordinary(), full(), api.Value{}, api.Value{Kind: 9, N: least}, api.Value{Kind: 3, Keys: []string{"b", "a", "a"}}, text(strings.Repeat("\xff", 5000)))
	for i, v := range list {
		sameIs(t, "itself", v, v, true)
		for what, w := range unlike(v) {
			sameIs(t, what, v, w, false)
			sameIs(t, what, w, w, true)
			if same(v, w) {
				t.Errorf("%s of %s is the same by the library", what, short(v))
			}
		}
		for j, w := range list {
			sameIs(t, "another", v, w, i == j)
		}
	}
}

// P11.1: also where what is another one stands deep within, at the first, a middle or the last place.
func TestSameDeepWithin(t *testing.T) {
	t.Parallel()
	others := unlike(full())
	for _, levels := range []int{1, 2, 11, 12, 13, 100} {
		for what, row := range rows() {
			for at := range 3 {
				in := func(v api.Value) api.Value {
					return within(v, levels, func(items ...api.Value) api.Value {
						return row(slices.Insert([]api.Value{num(1), list()}, at, items[0])...)
					})
				}
				sameIs(t, "deep in a "+what, in(full()), in(full()), true)
				for other, w := range others {
					if v := in(full()); value.Same(v, in(w)) || value.Same(in(w), v) {
						t.Errorf("%s, %d levels deep (%s), at %d: the same", other, levels, what, at)
					}
				}
			}
		}
	}
}

// P11.1: values at the edges, each against those beside it, by the library's eyes.
func TestSameAtTheEdges(t *testing.T) {
	t.Parallel()
	var last api.Value
	for _, e := range edges() {
		if want := same(e.v, last); value.Same(e.v, last) != want || value.Same(last, e.v) != want {
			t.Errorf("%s and the one ahead of it: Same is not %t", e.what, want)
		}
		if !value.Same(e.v, hollow(e.v)) || !value.Same(bare(e.v), e.v) {
			t.Errorf("%s is not the same as itself", e.what)
		}
		last = e.v
	}
}

// extents holds that Count and Depth answer what is told here.
func extents(t *testing.T, what string, v api.Value, many, deep int) {
	t.Helper()
	if got := value.Count(v); got != many {
		t.Errorf("%s: Count %d, not %d", what, got, many)
	}
	if got := value.Depth(v); got != deep {
		t.Errorf("%s: Depth %d, not %d", what, got, deep)
	}
}

// P11.1: Count and Depth of each kind, of rows in rows, and of what may not be.
func TestCountAndDepth(t *testing.T) {
	t.Parallel()
	for _, c := range []struct {
		v          api.Value
		many, deep int
	}{
		{num(0), 1, 1},
		{num(far + 1), 1, 1},
		{text(""), 1, 1},
		{text("[[1]]"), 1, 1},
		{list(), 1, 1},
		{keyed(), 1, 1},
		{list(num(5)), 2, 2},
		{list(num(5), num(6), text("a")), 4, 2},
		{list(list()), 2, 2},
		{list(list(), list()), 3, 2},
		{list(list(num(1)), num(2)), 4, 3},
		{list(num(2), list(num(1))), 4, 3},
		{list(num(2), list(list()), num(1), list(num(1), num(2))), 8, 3},
		{keyed(pair("a", num(1))), 2, 2},
		{keyed(pair("a", num(1)), pair("b", list(num(2), num(3))), pair("c", text(""))), 6, 3},
		{keyed(pair("a", keyed(pair("a", keyed(pair("a", num(1))))))), 4, 4},
		{full(), 8, 3},
		{api.Value{}, 1, 1},
		{api.Value{Kind: 7, N: 9, S: "a", Keys: []string{"a", "b"}}, 1, 1},
		{api.Value{Kind: 1, Items: numbers(3)}, 4, 2},
		{api.Value{Kind: 2, Items: []api.Value{list(num(1))}}, 3, 3},
		{api.Value{Kind: 4, Items: numbers(2)}, 3, 2},
		{api.Value{Kind: 4, Keys: []string{"a", "b"}}, 1, 1},
		{api.Value{Kind: -1, Items: []api.Value{{}, {Kind: 9, Items: numbers(1)}}}, 4, 3},
	} {
		extents(t, short(c.v), c.v, c.many, c.deep)
		extents(t, "hollow "+short(c.v), hollow(c.v), c.many, c.deep)
		for what, row := range rows() {
			extents(t, short(c.v)+" twice, in a "+what, row(c.v, num(1), c.v), 2*c.many+2, c.deep+1)
		}
	}
	for _, e := range edges() {
		extents(t, e.what, e.v, countOf(e.v), depthOf(e.v))
	}
}

// P1, P11.1: great values: wide, and with as many levels of nesting as the document promises anything for.
func TestGreatValues(t *testing.T) {
	t.Parallel()
	extents(t, "a long list", list(numbers(1<<20)...), 1<<20+1, 2)
	extents(t, "a list of long ones", list(slices.Repeat([]api.Value{list(numbers(1000)...)}, 1000)...), 1001001, 3)
	for _, levels := range []int{1000, 1<<16 - 1, 1 << 16} {
		for what, row := range rows() {
			v := within(num(1), levels, row)
			extents(t, fmt.Sprintf("a %s in so many", what), v, levels+1, levels+1)
			w, other := within(num(1), levels, row), within(num(2), levels, row)
			if !value.Same(v, w) || value.Same(v, other) || value.Same(v, row(v)) {
				t.Errorf("%d levels (%s): Same is wrong", levels, what)
			}
			if _, e := value.Print(v); e != api.ErrArg || value.Right(v) {
				t.Errorf("%d levels (%s) may be", levels, what)
			}
		}
	}
	wide := list(numbers(1 << 20)...)
	if other := list(numbers(1 << 20)...); !value.Same(wide, other) || value.Same(wide, list(numbers(1<<20-1)...)) {
		t.Error("Same of long lists is wrong")
	}
	if value.Right(wide) {
		t.Error("a long list may be")
	}
}
