package value_test

import (
	"fmt"
	"slices"
	"strings"
	"testing"

	"imprimatur/api"
	"imprimatur/value"
)

// flat are small values that stand in no row.
func flat() []api.Value {
	out := []api.Value{num(far), num(-far)}
	for _, n := range []int64{-11, -1, 0, 1, 2, 11, 12} {
		out = append(out, num(n))
	}
	for _, s := range spelledOf([]string{`"`, `\`, ",", "1", "[", "]", ":", "\x80"}, 2) {
		out = append(out, text(s))
	}
	return out
}

// small are values whose texts might be taken for one another: rows of none, one, two and three of a few, again within rows.
func small() []api.Value {
	out := flat()
	few := []api.Value{num(1), num(-1), num(11), text(""), text("1"), text(","), text(`"`), text(`","`), text(`\`), text(`\",\"`), list(), keyed()}
	keys := []string{"", "1", ",", `"`, `":1,"`, `\`, "\x80"}
	slices.Sort(keys)
	for range 2 {
		out = append(out, rowsOf(few, keys)...)
		few = []api.Value{num(1), text(","), list(), keyed(), list(num(1)), list(num(1), num(1)), list(list()), keyed(pair("", num(1))), keyed(pair(",", list())), keyed(pair("", num(1)), pair("1", num(1)))}
		keys = keys[:3]
	}
	return out
}

// rowsOf are lists and values by keys of up to three of a few.
func rowsOf(few []api.Value, keys []string) []api.Value {
	out := []api.Value{list(), keyed()}
	for i, a := range few {
		out = append(out, list(a))
		for n, key := range keys {
			out = append(out, keyed(pair(key, a)))
			for _, b := range few[:i+1] {
				for _, other := range keys[n+1:] {
					out = append(out, keyed(pair(key, a), pair(other, b)), keyed(pair(key, b), pair(other, a)))
				}
			}
		}
		for _, b := range few {
			out = append(out, list(a, b), list(list(a), b), list(a, list(b)))
			for _, c := range few {
				out = append(out, list(a, b, c))
			}
		}
	}
	return out
}

// P11.3, P6: over many small values: one text, just if Same says that they are the same.
func TestOneText(t *testing.T) {
	t.Parallel()
	seen := map[string]api.Value{}
	for _, v := range small() {
		s, e := value.Print(v)
		if e != api.OK {
			t.Fatalf("%s may not be", short(v))
		}
		if other, is := seen[s]; is && !value.Same(v, other) {
			t.Errorf("%s and %s are both written %q", short(v), short(other), s)
		}
		seen[s] = v
	}
	if len(seen) < 3000 {
		t.Errorf("%d texts", len(seen))
	}
	var texts []string
	for s := range seen {
		texts = append(texts, s)
	}
	slices.Sort(texts)
	for i, s := range texts {
		for _, other := range texts[i+1:] {
			if value.Same(seen[s], seen[other]) || value.Same(seen[other], seen[s]) {
				t.Fatalf("%s and %s are the same, but not their texts", s, other)
			}
		}
		if again, _ := value.Print(hollow(seen[s])); again != s || !value.Same(hollow(seen[s]), seen[s]) {
			t.Errorf("%s has another text with rows that are empty: %s", s, again)
		}
	}
}

// P11.3: also of greater ones: what is another one in one thing, and may be, has another text.
func TestOneTextOfGreaterOnes(t *testing.T) {
	t.Parallel()
	list := append(ordinary(), within(byPlace(num(1), text("a")), 8, mixedRow()), chained(500, 50, true, mixedOne()))
	compared := 0
	for _, v := range list {
		s, e := value.Print(v)
		if e != api.OK {
			t.Fatalf("%s may not be", short(v))
		}
		for what, w := range unlike(v) {
			other, e := value.Print(w)
			if mayBe(w) != (e == api.OK) {
				t.Errorf("%s of %s: Print %d", what, short(v), e)
			}
			if e != api.OK {
				continue
			}
			compared++
			if other == s || value.Same(v, w) {
				t.Errorf("%s of %s: Same %t, %q and %q", what, short(v), value.Same(v, w), s, other)
			}
		}
	}
	if compared < 100 {
		t.Errorf("%d texts compared", compared)
	}
}

// P11.2, P11.3: what Map makes has one text, in whatever order the pairs are handed in; Get finds each again.
func TestMapsHaveOneText(t *testing.T) {
	t.Parallel()
	for _, keys := range keyRows() {
		var pairs []api.Pair
		for i, key := range keys {
			pairs = append(pairs, pair(key, value.List(value.Number(int64(i)), value.Text("v"))))
		}
		first, e := value.Map(pairs...)
		want, wantErr := value.Print(first)
		if may := !slices.ContainsFunc(keys, func(s string) bool { return !plain(s) }); e != api.OK || may != (wantErr == api.OK) {
			t.Errorf("keys %.80q: Map %d, Print %d", keys, e, wantErr)
		}
		eachOrder(pairs, func(pairs []api.Pair) {
			v, e := value.Map(pairs...)
			if s, e1 := value.Print(v); e != api.OK || s != want || e1 != wantErr || !value.Same(v, first) {
				t.Errorf("keys %.80q: %d, %d, %.80q, not %.80q", keys, e, e1, s, want)
			}
			for _, p := range pairs {
				if got, is := value.Get(v, p.Key); !is || !value.Same(got, p.V) {
					t.Errorf("keys %.80q: Get of %.20q: %s, %t", keys, p.Key, short(got), is)
				}
			}
		})
	}
}

// copied is a list with room behind its length, in which something stands.
func copied[T any](list []T, room int, behind T) []T {
	out := append(make([]T, 0, len(list)+room), list...)
	for range room {
		out = append(out, behind)
	}
	return out[:len(list)]
}

// roomy is a copy of a value with room behind each of its rows.
func roomy(v api.Value, room int) api.Value {
	out := v
	out.Keys = copied(v.Keys, room, "behind")
	out.Items = copied(v.Items, room, text("behind"))
	for i, item := range v.Items {
		out.Items[i] = roomy(item, room)
	}
	return out
}

// wholly is a value with all that stands behind its rows, as text.
func wholly(v api.Value) string {
	var out strings.Builder
	for _, p := range all(v) {
		fmt.Fprintf(&out, "%d %d %q %q %d:", p.v.Kind, p.v.N, p.v.S, p.v.Keys[:cap(p.v.Keys)], len(p.v.Items))
		fmt.Fprintf(&out, "%+v\n", p.v.Items[:cap(p.v.Items)][len(p.v.Items):])
	}
	return out.String()
}

// R4: no call changes a value that it was handed, nor what stands behind its rows.
func TestValuesStay(t *testing.T) {
	t.Parallel()
	list := append(ordinary(), full(), within(full(), 5, mixedRow()), keyed(pair("b", full()), pair("a", num(1)), pair("b", num(2))))
	for _, room := range []int{0, 1, 7} {
		for _, v := range list {
			v = roomy(v, room)
			was := wholly(v)
			for _, w := range []api.Value{roomy(v, 3), num(1), list[0]} {
				value.Same(v, w)
				value.Same(w, v)
			}
			value.Right(v)
			value.Count(v)
			value.Depth(v)
			value.Print(v)
			for _, key := range slices.Concat(v.Keys, []string{"", "z"}) {
				value.Get(v, key)
			}
			if got := wholly(v); got != was {
				t.Errorf("with room for %d: %s, not %s", room, got, was)
			}
		}
	}
}

// R4: pairs and items that are handed in as one list stay as they are, in order or not, and so does what stands behind them; an answer that grows does not reach it.
func TestListsStay(t *testing.T) {
	t.Parallel()
	for _, keys := range [][]string{{}, {"a"}, {"b", "a"}, {"a", "b"}, {"c", "a", "b"}, {"b", "a", "b"}, {"a", "a"}, {"d", "c", "b", "a"}, {"\xff", "\x80", "a", ""}} {
		for _, room := range []int{0, 1, 7} {
			var pairs []api.Pair
			for i, key := range keys {
				pairs = append(pairs, pair(key, roomy(list(num(int64(i)), full()), room)))
			}
			pairs = copied(pairs, room, pair("0", text("behind")))
			handed := list()
			for _, p := range pairs[:cap(pairs)] {
				handed.Items, handed.Keys = append(handed.Items, p.V), append(handed.Keys, p.Key)
			}
			items := copied(handed.Items[:len(keys)], room, text("behind"))
			before := wholly(list(items...)) + wholly(handed)
			m, _ := value.Map(pairs...)
			l := value.List(items...)
			for _, v := range []api.Value{m, l} {
				v.Items = append(v.Items, num(99), num(99))
				v.Keys = append(v.Keys, "99", "99")
			}
			now := list()
			for _, p := range pairs[:cap(pairs)] {
				now.Items, now.Keys = append(now.Items, p.V), append(now.Keys, p.Key)
			}
			if got := wholly(list(items...)) + wholly(now); got != before {
				t.Errorf("keys %q, with room for %d: %s, not %s", keys, room, got, before)
			}
		}
	}
}

// R1: no call keeps anything.
func TestNothingIsKept(t *testing.T) {
	t.Parallel()
	round := func() []string {
		m, e := value.Map(pair("b", value.List(value.Number(1), value.Text("x"))), pair("a", value.Number(-2)))
		_, f := value.Map(pair("b", num(1)), pair("b", num(2)))
		s, g := value.Print(m)
		_, h := value.Print(full())
		got, is := value.Get(m, "b")
		return []string{
			wholly(m), s, wholly(got),
			short(api.Value{Kind: int(e), Items: []api.Value{num(int64(f)), num(int64(g)), num(int64(h)), num(int64(value.Count(m))), num(int64(value.Depth(m)))}}),
			map[bool]string{true: "is", false: "is not"}[is && value.Right(m) && value.Same(m, m)],
		}
	}
	first := round()
	for _, v := range append(ordinary(), full(), api.Value{}) {
		value.Right(v)
		value.Print(list(v, v))
		value.Map(pair("b", v), pair("a", v), pair("c", v))
		value.Map(pair("b", v), pair("b", v))
		value.Get(keyed(pair("b", v)), "b")
		value.Same(v, list(v))
		value.Count(list(v, v))
	}
	if again := round(); !slices.Equal(first, again) {
		t.Errorf("first %q, then %q", first, again)
	}
	if first[1] != `{"a":-2,"b":[1,"x"]}` || first[4] != "is" {
		t.Errorf("%q", first)
	}
}

// maker makes values of any bytes: such as may be, and such as may not.
type maker struct {
	bytes string
	made  int
}

func (m *maker) byte() byte {
	if m.bytes == "" {
		return 0
	}
	b := m.bytes[0]
	m.bytes = m.bytes[1:]
	return b
}

func (m *maker) text() string {
	n := min(int(m.byte()%6), len(m.bytes))
	s := m.bytes[:n]
	m.bytes = m.bytes[n:]
	return s
}

func (m *maker) number() int64 {
	b := m.byte()
	return (int64(b%4) - 1) << (b / 4)
}

func (m *maker) value(levels int) api.Value {
	m.made++
	b := m.byte()
	v := api.Value{Kind: int(b%7) - 1}
	if b >= 0xf0 || v.Kind == 1 {
		v.N = m.number()
	}
	if b%16 == 15 || v.Kind == 2 {
		v.S = m.text()
	}
	if levels == 0 || m.made > 3000 {
		return v
	}
	if b%32 == 31 || v.Kind >= 3 {
		for range m.byte() % 8 {
			v.Items = append(v.Items, m.value(levels-1))
		}
	}
	if v.Kind == 4 {
		v.Keys = byPlace(v.Items...).Keys
		for i := range v.Keys {
			v.Keys[i] = v.Keys[i][5:] + m.text()
		}
		if b > 0xe0 {
			v.Keys = append(v.Keys, m.text())
		}
	}
	return v
}

// P1, P11.1 to P11.3: no call panics, whatever it is handed, and each answers what the chapter says.
func FuzzAnyValue(f *testing.F) {
	for _, s := range []string{"", "\x04\x02\x03\x02ab\x02\x41", "\x05\x03\x02\x05\x02\x01\x02\x01a\x00\x01\"\x01\\", "\x05\x01\x05\x01\x04\x01\x02\x3c", "\xff\xff\xff\xff", strings.Repeat("\x04\x01", 14), strings.Repeat("\x05\x02", 300)} {
		f.Add(s, s, int64(len(s)))
		f.Add(s, s+"\x01", int64(-far)+3-int64(len(s)))
	}
	f.Fuzz(func(t *testing.T, a, b string, n int64) {
		v, w := (&maker{bytes: a}).value(20), (&maker{bytes: b}).value(20)
		for _, x := range []api.Value{v, w, list(v, w), keyed(pair(a, v), pair(b, w)), num(n), text(a)} {
			looks(t, x)
		}
		if got := value.Same(v, w); got != same(v, w) {
			t.Errorf("Same of %s and %s: %t", short(v), short(w), got)
		}
		if mayBe(v) && mayBe(w) && (textOf(v) == textOf(w)) != value.Same(v, w) {
			t.Errorf("%q and %q: Same %t", textOf(v), textOf(w), value.Same(v, w))
		}
		switch pairs := []api.Pair{pair(a, v), pair(b, w)}; {
		case a == b:
			mapsNot(t, "one key", pairs)
		case a < b:
			maps(t, "two keys", pairs, keyed(pairs...))
		default:
			maps(t, "two keys", pairs, keyed(pairs[1], pairs[0]))
		}
		if got := value.List(v, w, num(n)); !same(got, list(v, w, num(n))) {
			t.Errorf("List of %s, %s and %d: %s", short(v), short(w), n, short(got))
		}
	})
}

// looks holds that the calls of one value answer what the chapter says.
func looks(t *testing.T, v api.Value) {
	t.Helper()
	want, wantErr := "", api.ErrArg
	if mayBe(v) {
		want, wantErr = textOf(v), api.OK
	}
	if got, e := value.Print(v); got != want || e != wantErr || value.Right(v) != mayBe(v) {
		t.Errorf("%s: Right %t, Print %q, %d, not %q, %d", short(v), value.Right(v), got, e, want, wantErr)
	}
	extents(t, short(v), v, countOf(v), depthOf(v))
	if !value.Same(v, bare(v)) {
		t.Errorf("%s is not the same as itself", short(v))
	}
	for i, key := range slices.Concat([]string{"no such key"}, v.Keys) {
		if at := slices.Index(v.Keys, key); v.Kind == 4 && len(v.Keys) == len(v.Items) && at >= 0 {
			gets(t, "any", v, key, v.Items[at])
		} else {
			getsNone(t, "any", v, key)
		}
		if i > 20 {
			break
		}
	}
}
