package value_test

import (
	"encoding/json"
	"fmt"
	"math/big"
	"reflect"
	"slices"
	"strings"
	"testing"

	"imprimatur/api"
)

const (
	far      = 1 << 40 // how far a number may be from 0
	least    = -1 << 63
	greatest = 1<<63 - 1
	long     = 4000 // bytes of a text
	deepest  = 12
	most     = 2000
)

// num, text, list and keyed are values, made without the program's own calls.
func num(n int64) api.Value {
	return api.Value{Kind: 1, N: n}
}

func text(s string) api.Value {
	return api.Value{Kind: 2, S: s}
}

func list(items ...api.Value) api.Value {
	return api.Value{Kind: 3, Items: items}
}

func keyed(pairs ...api.Pair) api.Value {
	v := api.Value{Kind: 4}
	for _, p := range pairs {
		v.Keys, v.Items = append(v.Keys, p.Key), append(v.Items, p.V)
	}
	return v
}

func pair(key string, v api.Value) api.Pair {
	return api.Pair{Key: key, V: v}
}

// byPlace are values by keys of the numbers of their places, in as many digits.
func byPlace(items ...api.Value) api.Value {
	v := api.Value{Kind: 4, Items: items}
	for i := range items {
		v.Keys = append(v.Keys, fmt.Sprintf("%06d", i))
	}
	return v
}

// numbers are so many values.
func numbers(n int) []api.Value {
	out := make([]api.Value, n)
	for i := range out {
		out[i] = num(int64(i))
	}
	return out
}

// rows are the ways in which values stand in another one.
func rows() map[string]func(...api.Value) api.Value {
	return map[string]func(...api.Value) api.Value{"list": list, "keys": byPlace}
}

// within is v in so many rows, one around the other.
func within(v api.Value, levels int, row func(...api.Value) api.Value) api.Value {
	for range levels {
		v = row(v)
	}
	return v
}

// mixedRow is a list and values by keys in turn, with something beside what stands in it.
func mixedRow() func(...api.Value) api.Value {
	n := 0
	return func(items ...api.Value) api.Value {
		n++
		switch n % 3 {
		case 0:
			return list(append([]api.Value{num(1)}, items...)...)
		case 1:
			return byPlace(append(slices.Clone(items), text("a"))...)
		}
		return list(items...)
	}
}

// placed is a value, and how deep it stands in another one.
type placed struct {
	v     api.Value
	level int
}

// all are a value and those in it, the outer ones first.
func all(v api.Value) []placed {
	out := []placed{{v, 1}}
	for i := 0; i < len(out); i++ {
		for _, item := range out[i].v.Items {
			out = append(out, placed{item, out[i].level + 1})
		}
	}
	return out
}

func countOf(v api.Value) int {
	return len(all(v))
}

func depthOf(v api.Value) int {
	a := all(v)
	return a[len(a)-1].level
}

// mayBe is the chapter's word, of a value that ends.
func mayBe(v api.Value) bool {
	a := all(v)
	if len(a) > most || a[len(a)-1].level > deepest {
		return false
	}
	return !slices.ContainsFunc(a, func(p placed) bool { return !aloneMayBe(p.v) })
}

// fields are which of its fields each kind has.
func fields() map[int]string {
	return map[int]string{1: "N", 2: "S", 3: "I", 4: "IK"}
}

// aloneMayBe is the chapter's word of one value, without its items.
func aloneMayBe(v api.Value) bool {
	has, is := fields()[v.Kind]
	other := v.N != 0 && !strings.Contains(has, "N") ||
		v.S != "" && !strings.Contains(has, "S") ||
		len(v.Items) != 0 && !strings.Contains(has, "I") ||
		len(v.Keys) != 0 && !strings.Contains(has, "K")
	ordered := slices.Clone(v.Keys)
	slices.Sort(ordered)
	ordered = slices.Compact(ordered)
	return is && !other &&
		new(big.Int).Abs(big.NewInt(v.N)).Cmp(big.NewInt(far)) <= 0 &&
		!slices.ContainsFunc(append(ordered, v.S), func(s string) bool { return !plain(s) }) &&
		(v.Kind != 4 || len(v.Keys) == len(v.Items)) &&
		slices.Equal(v.Keys, ordered)
}

// plain tells whether a text, or a key, may be.
func plain(s string) bool {
	return len(s) <= 4000 && !strings.ContainsFunc(s, func(r rune) bool { return r < ' ' })
}

// textOf is the text of a value that may be, from a stack of what is still to be written.
func textOf(v api.Value) string {
	var out []byte
	todo := []any{v}
	for len(todo) > 0 {
		next := todo[len(todo)-1]
		todo = todo[:len(todo)-1]
		v, is := next.(api.Value)
		if !is {
			out = append(out, next.(string)...)
			continue
		}
		parts := partsOf(v)
		slices.Reverse(parts)
		todo = append(todo, parts...)
	}
	return string(out)
}

// partsOf are what a value's text is put together from: texts, and its items.
func partsOf(v api.Value) []any {
	switch v.Kind {
	case 1:
		return []any{big.NewInt(v.N).String()}
	case 2:
		return []any{marked(v.S)}
	}
	brackets := map[int]string{3: "[]", 4: "{}"}[v.Kind]
	parts := []any{brackets[:1]}
	for i, item := range v.Items {
		if i > 0 {
			parts = append(parts, ",")
		}
		if v.Kind == 4 {
			parts = append(parts, marked(v.Keys[i]), ":")
		}
		parts = append(parts, item)
	}
	return append(parts, brackets[1:])
}

// marked is a text in quotes, byte by byte.
func marked(s string) string {
	out := []byte{'"'}
	for _, b := range []byte(s) {
		if b == '"' || b == '\\' {
			out = append(out, '\\')
		}
		out = append(out, b)
	}
	return string(append(out, '"'))
}

// libraryText is the text of a value by the library's JSON, which is the same where all bytes are ASCII. It puts keys in their order.
func libraryText(t *testing.T, v api.Value) string {
	t.Helper()
	var out strings.Builder
	e := json.NewEncoder(&out)
	e.SetEscapeHTML(false)
	if err := e.Encode(libraryValue(v)); err != nil {
		t.Fatal(err)
	}
	return strings.TrimSuffix(out.String(), "\n")
}

func libraryValue(v api.Value) any {
	switch v.Kind {
	case 1:
		return v.N
	case 2:
		return v.S
	case 3:
		items := []any{}
		for _, item := range v.Items {
			items = append(items, libraryValue(item))
		}
		return items
	}
	byKeys := map[string]any{}
	for i, item := range v.Items {
		byKeys[v.Keys[i]] = libraryValue(item)
	}
	return byKeys
}

// bare is a copy of a value with nil for each row that is empty.
func bare(v api.Value) api.Value {
	out := v
	out.Items, out.Keys = nil, nil
	out.Keys = append(out.Keys, v.Keys...)
	for _, item := range v.Items {
		out.Items = append(out.Items, bare(item))
	}
	return out
}

// same is the chapter's word, by the library's eyes.
func same(v, w api.Value) bool {
	return reflect.DeepEqual(bare(v), bare(w))
}

// hollow is a copy of a value with an empty row for each that is nil.
func hollow(v api.Value) api.Value {
	out := v
	out.Items, out.Keys = []api.Value{}, []string{}
	out.Keys = append(out.Keys, v.Keys...)
	for _, item := range v.Items {
		out.Items = append(out.Items, hollow(item))
	}
	return out
}

// short is what a test tells of a value.
func short(v api.Value) string {
	return fmt.Sprintf("%.200s", fmt.Sprintf("%+v", v))
}

// holdsItself are values that are none, each in itself, by way of others or not.
func holdsItself() map[string]api.Value {
	out := map[string]api.Value{}
	for many := 1; many <= 3; many++ {
		for at := range many {
			items := numbers(many)
			items[at] = list(items...)
			out[fmt.Sprintf("a list, as item %d of %d", at, many)] = list(items...)
			v := byPlace(items...)
			items[at] = v
			out[fmt.Sprintf("by keys, as item %d of %d", at, many)] = v
		}
	}
	items := make([]api.Value, 2001)
	for i := range items {
		items[i] = list(items...)
	}
	out["a list, as all of its items"] = list(items...)
	one, other := numbers(2), numbers(2)
	one[1], other[1] = list(other...), byPlace(one...)
	out["by way of another one"] = list(one...)
	out["in one that does not hold itself"] = byPlace(num(1), list(one...), num(2))
	return out
}

// The words of this file lead where the chapter says, and values that hold themselves do so.
func TestOracle(t *testing.T) {
	t.Parallel()
	v := keyed(pair("a", list()), pair("b", num(-2)), pair("c", list(text(`\"`), byPlace(num(7)))))
	if got := textOf(v); got != `{"a":[],"b":-2,"c":["\\\"",{"000000":7}]}` || libraryText(t, v) != got {
		t.Errorf("the text is %s, or %s", got, libraryText(t, v))
	}
	if countOf(v) != 7 || depthOf(v) != 4 || !mayBe(v) {
		t.Errorf("%d, %d deep, may be: %t", countOf(v), depthOf(v), mayBe(v))
	}
	if !same(v, bare(v)) || !same(v, hollow(v)) || same(v, list(v)) {
		t.Error("Same by the library is another one")
	}
	for what, v := range holdsItself() {
		levels, seen := 0, map[*api.Value]bool{}
		for ; levels < 10; levels++ {
			at := slices.IndexFunc(v.Items, func(item api.Value) bool { return len(item.Items) > 0 })
			if at < 0 {
				break
			}
			seen[&v.Items[0]] = true
			v = v.Items[at]
		}
		if levels < 10 || len(seen) > 3 {
			t.Errorf("%s: it does not hold itself: %d levels, %d rows", what, levels, len(seen))
		}
	}
}
