package parse_test

import (
	"fmt"
	"math/rand"
	"slices"
	"strings"
	"testing"

	"imprimatur/api"
	"imprimatur/parse"
	"imprimatur/value"
)

// leadsBack holds that a value's text is parsed as that value, and tells whether the value may be, with a text that is not too long.
func leadsBack(t *testing.T, v api.Value) bool {
	t.Helper()
	s, e := value.Print(v)
	switch {
	case e != api.OK:
		return false
	case len(s) > whole:
		parsesNot(t, "a value whose text is too long", s, api.ErrLong)
		return false
	}
	got, e := parse.Parse(s)
	if e != api.OK || !value.Same(got, v) || !same(got, v) || !value.Right(got) {
		t.Errorf("%s, written and parsed, is %s, %d", short(v), short(got), e)
	}
	return true
}

// isWrittenSo holds that what is parsed of a text, if anything, is written as that text, and tells whether anything is.
func isWrittenSo(t *testing.T, s string) bool {
	t.Helper()
	v, e := parse.Parse(s)
	if e != api.OK {
		return false
	}
	if got, e := value.Print(v); got != s || e != api.OK || !value.Right(v) {
		t.Errorf("%s, parsed and written, is %s, %d", short(s), short(got), e)
	}
	return true
}

// rowsOf are lists and maps of up to three of a few.
func rowsOf(few []api.Value, keys []string) []api.Value {
	out := []api.Value{list(), keyed()}
	for i, a := range few {
		out = append(out, list(a))
		for n, key := range keys {
			out = append(out, keyed(pair(key, a)))
			for _, b := range few[:i+1] {
				for _, other := range keys[n+1:] {
					out = append(out, keyed(pair(key, a), pair(other, b)), keyed(pair(key, b), pair(other, a)))
				}
			}
		}
		for _, b := range few {
			out = append(out, list(a, b), list(list(a), b), keyed(pair("", list(a)), pair(`"`, keyed(pair(`\`, b)))))
			for _, c := range few {
				out = append(out, list(a, b, c), keyed(pair("", a), pair("a", b), pair("b", c)))
			}
		}
	}
	return out
}

// small are values whose texts might be taken for one another.
func small() []api.Value {
	out := []api.Value{num(far), num(-far), text(strings.Repeat(`\`, long))}
	for n := range int64(30) {
		out = append(out, num(n-15))
	}
	for _, s := range spelledOf([]string{`"`, `\`, ",", "1", "[", "]", ":", "\x80"}, 3) {
		out = append(out, text(s), keyed(pair(s, num(1))))
	}
	few := []api.Value{num(1), num(-1), num(11), num(0), text(""), text("1"), text(","), text(`"`), text(`","`), text(`\`), list(), keyed()}
	keys := []string{"", `"`, `":1,"`, ",", "1", `\`, "\x80"}
	out = append(out, rowsOf(few, keys)...)
	return append(out, rowsOf([]api.Value{num(-1), text(","), list(), list(num(1), num(1)), list(list()), keyed(pair("", num(1))), keyed(pair(",", list())), keyed(pair("", num(1)), pair("1", keyed()))}, keys[:3])...)
}

// P12.3, P6: over many small values, each that is written is parsed.
func TestWhatIsWrittenIsParsed(t *testing.T) {
	t.Parallel()
	read := 0
	for _, v := range small() {
		if leadsBack(t, v) {
			read++
		}
	}
	if read < 5000 {
		t.Errorf("%d values", read)
	}
}

// P12.3: also of values at the edges of what may be.
func TestWhatIsWrittenIsParsedAtTheEdges(t *testing.T) {
	t.Parallel()
	for _, v := range wholes() {
		if !leadsBack(t, v) {
			t.Errorf("%s may not be", short(v))
		}
	}
	for _, n := range []int{1, 500, 1000, 1998, 1999, 2000} {
		v, w := list(), keyed()
		for i := range n {
			v.Items = append(v.Items, num(int64(i)))
			w.Items, w.Keys = append(w.Items, text("v")), append(w.Keys, fmt.Sprintf("%09d", i))
		}
		if leadsBack(t, v) != (n < most) || leadsBack(t, w) != (n < most) {
			t.Errorf("%d in a row: may be: %t", n, value.Right(v))
		}
	}
	for levels := range 14 {
		for _, isList := range ways() {
			for _, v := range ofEachKind() {
				if w := standing(v, isList, levels); leadsBack(t, w) != (levels+value.Depth(v) <= deepest) {
					t.Errorf("%s: may be: %t", short(w), value.Right(w))
				}
			}
		}
	}
	for _, n := range []int{0, 1, 3999, 4000, 4001} {
		for _, unit := range []string{"a", `"`, `\`, "\xff"} {
			s := strings.Repeat(unit, n)
			if leadsBack(t, text(s)) != (n <= long) || leadsBack(t, keyed(pair(s, text(s)))) != (n <= long) {
				t.Errorf("%d of %q: wrong", n, unit)
			}
		}
	}
	for _, n := range []int{60000, whole - 1, whole, whole + 1, 70000} {
		for _, unit := range []string{"a", `"`, `\`, "\xff"} {
			if v, s := filled(n, unit); leadsBack(t, v) != (n <= whole) || len(s) != n {
				t.Errorf("a text of %d bytes: wrong", n)
			}
		}
	}
}

// looked holds all that is promised of any text, and tells whether it is a value's.
func looked(t *testing.T, what, s string) bool {
	t.Helper()
	is := parsesAsWords(t, what, s)
	if isWrittenSo(t, s) != is {
		t.Errorf("%s: %s is parsed: %t", what, short(s), !is)
	}
	return is
}

// lookedAsLibrary holds, too, that the library's JSON takes a text for the same value, or for none. The text has ASCII alone.
func lookedAsLibrary(t *testing.T, what, s string) bool {
	t.Helper()
	want, is := byLibrary(s)
	if got, e := parse.Parse(s); (e == api.OK) != is || is && !same(got, want) {
		t.Errorf("%s: Parse of %s: %s, %d, by the library %s, %t", what, short(s), short(got), e, short(want), is)
	}
	return looked(t, what, s)
}

// P12.3, P6: over all short texts of the signs: what is parsed, written, is the text.
func TestWhatIsParsedIsWritten(t *testing.T) {
	t.Parallel()
	for what, c := range map[string]struct {
		letters string
		longest int
		around  [2]string
		least   int
	}{
		"all of the signs":           {`[]{},:"\01-a`, 4, [2]string{"", ""}, 100},
		"all of the signs in a list": {`[]{},:"\01-a`, 4, [2]string{"[", "]"}, 170},
		"all of the signs by a key":  {`[]{},:"\01-a`, 4, [2]string{`{"a":`, "}"}, 140},
		"signs of lists":             {`[],0`, 8, [2]string{"", ""}, 25},
		"signs of lists and texts":   {`[],"a`, 6, [2]string{"[", "]"}, 200},
		"signs of maps":              {`{}":,0`, 6, [2]string{"", ""}, 5},
		"signs of maps behind a key": {`{}":,0`, 6, [2]string{`{"":`, "}"}, 20},
		"signs of texts":             {`"\a,`, 8, [2]string{`["`, `"]`}, 1000},
		"digits":                     {`-019`, 6, [2]string{"", ""}, 900},
	} {
		t.Run(what, func(t *testing.T) {
			t.Parallel()
			read := 0
			for _, s := range spelledOf(strings.Split(c.letters, ""), c.longest) {
				if lookedAsLibrary(t, what, c.around[0]+s+c.around[1]) {
					read++
				}
			}
			if read < c.least {
				t.Errorf("%d are texts of values", read)
			}
		})
	}
}

// P12.3, P12.1: over texts made of all of the signs at random.
func TestRandomTexts(t *testing.T) {
	t.Parallel()
	r := rand.New(rand.NewSource(12))
	pieces := []string{"[", "]", "{", "}", ",", ":", `"`, `\`, "-", "0", "1", "97", `"a"`, `"b":`, `"":`, `"\\":`, `"\""`, "[]", "{}", "[1,", `{"a":`, "],", "},", " ", "a", "\x1f", "\x80", "\xff", "1099511627776", "1099511627777"}
	for range 60000 {
		var s strings.Builder
		for range 1 + r.Intn(12) {
			s.WriteString(pieces[r.Intn(len(pieces))])
		}
		looked(t, "pieces at random", s.String())
		looked(t, "pieces at random, in a list", "["+s.String()+"]")
	}
	for range 3000 {
		b := make([]byte, r.Intn(40))
		r.Read(b)
		looked(t, "bytes at random", string(b))
		looked(t, "bytes at random, in quotes", `"`+string(b)+`"`)
	}
}

// randomValue is one that may be, in so many levels at most.
func randomValue(r *rand.Rand, levels int) api.Value {
	kind := 1 + r.Intn(4)
	if levels == 1 {
		kind = 1 + r.Intn(2)
	}
	randomText := func() string {
		b := make([]byte, r.Intn(6))
		for i := range b {
			b[i] = `"\a,:[]{}1 ~`[r.Intn(12)]
			if r.Intn(4) == 0 {
				b[i] = byte(32 + r.Intn(224))
			}
		}
		return string(b)
	}
	switch kind {
	case 1:
		return num((r.Int63n(2*far+1) - far) >> r.Intn(41))
	case 2:
		return text(randomText())
	}
	v := api.Value{Kind: kind}
	for range r.Intn(5) {
		v.Items = append(v.Items, randomValue(r, levels-1))
	}
	if kind == 4 {
		for range v.Items {
			v.Keys = append(v.Keys, randomText())
		}
		slices.Sort(v.Keys)
		v.Keys = slices.Compact(v.Keys)
		v.Items = v.Items[:len(v.Keys)]
	}
	return v
}

// P12.3, P12.1: random values are parsed as they are written; and over texts that are nearly theirs: with a byte more, less, or another one, a piece twice, or left out.
func TestTextsNearlyOfValues(t *testing.T) {
	t.Parallel()
	r := rand.New(rand.NewSource(13))
	signs := "[]{},:\"\\-019a \x00\x1f\x7f\x80\xff"
	read, all := 0, 0
	for range 1500 {
		v := randomValue(r, 1+r.Intn(6))
		if value.Right(v) && !leadsBack(t, v) {
			t.Errorf("%s is not parsed", short(v))
		}
		s, _ := value.Print(v)
		for range 40 {
			i, j := r.Intn(len(s)+1), r.Intn(len(s)+1)
			i, j = min(i, j), max(i, j)
			b := signs[r.Intn(len(signs))]
			for _, near := range []string{s[:i] + string([]byte{b}) + s[i:], s[:i] + s[j:], s[:j] + s[i:], s[:i] + string([]byte{b}) + s[min(i+1, len(s)):], s[:i] + s[min(i+1, len(s)):]} {
				all++
				if looked(t, "nearly a value's text", near) {
					read++
				}
			}
		}
	}
	if read < all/20 || read > all*19/20 {
		t.Errorf("%d of %d are texts of values", read, all)
	}
}

// copied is a list with room behind its length, in which something stands.
func copied[T any](list []T, room int, behind T) []T {
	out := append(make([]T, 0, len(list)+room), list...)
	for range room {
		out = append(out, behind)
	}
	return out[:len(list)]
}

// roomy is a copy of a value with room behind each of its lists.
func roomy(v api.Value, room int) api.Value {
	out := v
	out.Keys = copied(v.Keys, room, "behind")
	out.Items = copied(v.Items, room, text("behind"))
	for i, item := range v.Items {
		out.Items[i] = roomy(item, room)
	}
	return out
}

// wholly is a value with all that stands behind its lists, as text.
func wholly(v api.Value) string {
	out := fmt.Sprintf("%d %d %q %q %d[", v.Kind, v.N, v.S, v.Keys[:cap(v.Keys)], len(v.Items))
	for _, item := range v.Items {
		out += wholly(item) + ","
	}
	return out + "]" + fmt.Sprintf("%+v", v.Items[:cap(v.Items)][len(v.Items):])
}

// R4: no call changes a list that it was handed, nor what stands behind it.
func TestListsStay(t *testing.T) {
	t.Parallel()
	for _, v := range []api.Value{
		keyed(), list(num(1), text("a")), keyed(pair("a", num(1)), pair("b", list(num(1), num(2))), pair("c", keyed(pair("a", list())))),
		keyed(pair("c", num(1)), pair("a", text("x")), pair("b", list(num(1)))), keyed(pair("b", num(1)), pair("a", num(1)), pair("b", num(2))), {Kind: 4, Keys: []string{"b", "a"}, Items: []api.Value{num(1)}},
	} {
		for _, room := range []int{0, 1, 7} {
			v := roomy(v, room)
			was := wholly(v)
			for _, keys := range [][]string{{}, {"a"}, {"b", "a"}, {"a", "b"}, {"c", "b", "a"}, {"a", "b", "c"}, {"b", "b", "a"}, {"b", "a", "b"}, {"z"}} {
				keys := copied(keys, room, "behind")
				handed := slices.Clone(keys[:cap(keys)])
				_, _ = parse.Fields(v, keys...)
				for _, key := range keys {
					for kind := range 6 {
						_, _ = parse.Field(v, key, kind)
					}
				}
				if !slices.Equal(keys[:cap(keys)], handed) || wholly(v) != was {
					t.Errorf("with room for %d: %q, not %q; %s, not %s", room, keys[:cap(keys)], handed, wholly(v), was)
				}
			}
		}
	}
}

// memory is where lists stand, with the room behind them, by what they are.
type memory struct {
	items map[*api.Value]bool
	keys  map[*string]bool
}

// take holds that no list of v stands where another one does that was taken.
func (m memory) take(t *testing.T, what string, v api.Value) {
	t.Helper()
	items, keys := v.Items[:cap(v.Items)], v.Keys[:cap(v.Keys)]
	for i := range items {
		if m.items[&items[i]] {
			t.Errorf("%s: a list of %s is part of another one", what, short(v))
		}
		m.items[&items[i]] = true
	}
	for i := range keys {
		if m.keys[&keys[i]] {
			t.Errorf("%s: keys of %s are part of other ones", what, short(v))
		}
		m.keys[&keys[i]] = true
	}
	for _, item := range v.Items {
		m.take(t, what, item)
	}
}

// R1, R4: what is parsed is new: no list of it is part of another one, nor of another answer.
func TestAnswersAreNew(t *testing.T) {
	t.Parallel()
	m := memory{map[*api.Value]bool{}, map[*string]bool{}}
	for s := range wholes() {
		for range 2 {
			v, _ := parse.Parse(s)
			m.take(t, s, v)
			w, _ := parse.Parse("[[" + s + `],{"a":` + s + `,"b":` + s + "}]")
			m.take(t, s, w)
		}
	}
	if len(m.items) < 100 || len(m.keys) < 50 {
		t.Errorf("%d items, %d keys", len(m.items), len(m.keys))
	}
}

// R1: no call keeps anything.
func TestNothingIsKept(t *testing.T) {
	t.Parallel()
	round := func() string {
		v, e := parse.Parse(`{"a":[1,{"b":"\""}],"c":-7}`)
		item, f := parse.Field(v, "c", 1)
		items, g := parse.Fields(v, "c", "a")
		_, h := parse.Parse(`{"a":[1,{"b":"\""}],"a"`)
		return fmt.Sprintf("%+v %d %+v %d %+v %d %d", bare(v), e, item, f, bare(list(items...)), g, h)
	}
	first := round()
	for s := range wholes() {
		for n := range len(s) {
			_, _ = parse.Parse(s[n:])
			_, _ = parse.Parse(s[:n])
		}
		v, _ := parse.Parse(s)
		_, _ = parse.Fields(v, append(slices.Clone(v.Keys), "a")...)
		_, _ = parse.Field(v, "c", 2)
	}
	_, _ = parse.Parse(strings.Repeat("[", 13))
	_, _ = parse.Parse("[" + rowOf(2500, "1"))
	if again := round(); again != first || !strings.HasSuffix(first, " 0 23") {
		t.Errorf("first %s, then %s", first, again)
	}
}

// P1: no call panics, whatever it is handed; each answers what the chapter says.
func FuzzAnyText(f *testing.F) {
	for s := range wholes() {
		f.Add(s, "a", 1)
		f.Add(s+",", "", -1)
		f.Add(s[1:], "b", 4)
	}
	for _, s := range []string{"", strings.Repeat("[", 13), "[" + rowOf(2000, "1"), `{"b":1,"a":2}`, "[-0]", `"\a"`, "1099511627777", `{"a":1,"a`, "\x00"} {
		f.Add(s, s, len(s))
	}
	f.Fuzz(func(t *testing.T, s, key string, kind int) {
		looked(t, "any text", s)
		looked(t, "any text in a list", "["+s+"]")
		v, _ := parse.Parse(s)
		if at := slices.Index(v.Keys, key); at >= 0 && v.Items[at].Kind == kind {
			has(t, "any key", v, key, kind, v.Items[at])
		} else {
			hasNot(t, "any key", v, key, kind)
		}
		haveJust(t, "its own keys", asMap(v), asMap(v).Keys, asMap(v).Items...)
		haveJust(t, "the only key", keyed(pair(key, v)), []string{key}, v)
		haveJust(t, "two keys", keyed(pair(key, num(1)), pair(key+"k", v)), []string{key + "k", key}, v, num(1))
		haveNot(t, "a key twice", keyed(pair(key, num(1)), pair(key, v)), key, key)
		haveNot(t, "another key", keyed(pair(key+"k", v)), key)
		haveNot(t, "another key more", keyed(pair(key, v)), key, key+"k")
	})
}

// asMap is a value that is a map, or a map of it.
func asMap(v api.Value) api.Value {
	if v.Kind == 4 {
		return v
	}
	return keyed(pair("", v))
}
