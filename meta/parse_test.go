package meta_test

import (
	"fmt"
	"slices"
	"strings"
	"testing"

	"imprimatur/api"
	"imprimatur/parse"
	"imprimatur/value"
)

// P15.1: what is no value's text: the error of parse.Parse.
func TestErrorsOfParse(t *testing.T) {
	t.Parallel()
	good := textOf(timestamp(), sigRow(1)...)
	for s, e := range map[string]api.Errno{
		strings.Repeat(" ", 65537):                                                              api.ErrLong,
		good + strings.Repeat(" ", 65536):                                                       api.ErrLong,
		strings.Replace(good, `"version":12`, `"version":1099511627777`, 1):                     api.ErrLong,
		strings.Replace(good, `"version":12`, `"version":-1099511627777`, 1):                    api.ErrLong,
		strings.Replace(good, `"name":"snapshot"`, `"name":"`+strings.Repeat("s", 4001)+`"`, 1): api.ErrLong,
		"":                 api.ErrShort,
		good[:1]:           api.ErrShort,
		good[:len(good)/2]: api.ErrShort,
		good[:len(good)-1]: api.ErrShort,
		" " + good:         api.ErrSyntax,
		good + " ":         api.ErrSyntax,
		good + "\n":        api.ErrSyntax,
		good + good:        api.ErrSyntax,
		"x":                api.ErrSyntax,
		strings.Replace(good, `"version":12`, `"version":012`, 1):                           api.ErrSyntax,
		strings.Replace(good, `"version":12`, `"version":+12`, 1):                           api.ErrSyntax,
		strings.Replace(good, `"version":12`, `"version":-0`, 1):                            api.ErrSyntax,
		strings.Replace(good, `"version":12`, `"version":12.0`, 1):                          api.ErrSyntax,
		strings.Replace(good, `"version":12`, `"version":true`, 1):                          api.ErrSyntax,
		strings.Replace(good, `"kind"`, `"kin\u0064"`, 1):                                   api.ErrSyntax,
		strings.Replace(good, `"kind":`, `"kind": `, 1):                                     api.ErrSyntax,
		strings.Replace(good, `"name":"snapshot"`, "\"name\":\"snap\nshot\"", 1):            api.ErrSyntax,
		strings.Repeat("[", 13) + strings.Repeat("]", 13):                                   api.ErrDeep,
		`{"meta":` + strings.Repeat("[", 12) + strings.Repeat("]", 12) + `,"sigs":[]}`:      api.ErrDeep,
		"[" + strings.Repeat("1,", 1999) + "1]":                                             api.ErrMany,
		`{"meta":` + bodyOf(timestamp()) + `,"sigs":[` + strings.Repeat("1,", 2000) + `1]}`: api.ErrMany,
		`{"sigs":[],"meta":` + bodyOf(timestamp()) + `}`:                                    api.ErrOrder,
		strings.Replace(good, `"expires":90,`, `"expires":90,"expires":90,`, 1):             api.ErrOrder,
		`{"meta":` + bodyOf(timestamp()) + `,"meta":` + bodyOf(timestamp()) + `,"sigs":[]}`: api.ErrOrder,
		`{"meta":{"kind":"snapshot","expires":4,"files":[],"version":3},"sigs":[]}`:         api.ErrOrder,
	} {
		if _, err := parse.Parse(s); err != e {
			t.Errorf("parse.Parse of %.200q: %d, not %d", s, err, e)
		}
		refuses(t, "no value's text", s, e)
	}
}

// P15.1: values that are no map of `meta` and `sigs`.
func TestOtherValues(t *testing.T) {
	t.Parallel()
	body, sigs := bodyOf(timestamp()), rowed(sigRow(2), sigText)
	readsAs(t, "the right one", `{"meta":`+body+`,"sigs":`+sigs+`}`, timestamp(), sigRow(2)...)
	for _, s := range []string{
		"0", "1", "-1", `""`, `"meta"`, "[]", "{}", "[" + body + "," + sigs + "]", `["meta",` + body + `,"sigs",` + sigs + `]`, body, sigs, quoted(textOf(timestamp())), "[" + textOf(timestamp()) + "]",
		`{"meta":` + body + `}`, `{"sigs":` + sigs + `}`, `{"meta":` + sigs + `,"sigs":` + body + `}`, `{"meta":[` + body + `],"sigs":` + sigs + `}`, `{"meta":` + quoted(body) + `,"sigs":` + sigs + `}`,
		`{"":0,"meta":` + body + `,"sigs":` + sigs + `}`, `{"meta":` + body + `,"more":0,"sigs":` + sigs + `}`, `{"meta":` + body + `,"sigs":` + sigs + `,"z":0}`, `{"META":` + body + `,"SIGS":` + sigs + `}`, `{"meta":` + body + `,"sig":` + sigs + `}`,
		`{"meta":{},"sigs":[]}`, `{"meta":[],"sigs":[]}`, `{"meta":0,"sigs":0}`, `{"meta":` + body + `,"sigs":{}}`, `{"meta":` + body + `,"sigs":""}`, `{"meta":` + body + `,"sigs":0}`, `{"meta":` + body + `,"sigs":[[]]}`, `{"meta":` + body + `,"sigs":[{}]}`, `{"meta":` + body + `,"sigs":[0]}`, `{"meta":` + body + `,"sigs":["` + sigRow(1)[0].Id + `"]}`,
		`{"meta":` + body + `,"sigs":` + sigText(sigRow(1)[0]) + `}`, `{"meta":` + textOf(timestamp()) + `,"sigs":` + sigs + `}`,
		"[" + strings.Repeat(`"`+strings.Repeat("a", 4000)+`",`, 16) + `"` + strings.Repeat("a", 65536-2-16*4003-2) + `"]`,
	} {
		refuses(t, "another value", s, api.ErrSchema)
	}
}

// place is that of a value within another one: which item of which item.
type place []int

func placesOf(v api.Value) []place {
	out := []place{{}}
	for i, item := range v.Items {
		for _, p := range placesOf(item) {
			out = append(out, append(place{i}, p...))
		}
	}
	return out
}

func standsAt(v api.Value, p place) api.Value {
	for _, i := range p {
		v = v.Items[i]
	}
	return v
}

// replaced is a value with another one at a place of it.
func replaced(v api.Value, p place, w api.Value) api.Value {
	if len(p) == 0 {
		return w
	}
	v.Items = put(v.Items, p[0], replaced(v.Items[p[0]], p[1:], w))
	return v
}

func spelled(t *testing.T, v api.Value) string {
	t.Helper()
	s, e := value.Print(v)
	if e != api.OK {
		t.Fatalf("Print of %.200v: %d", v, e)
	}
	return s
}

// eachPlace goes through all values that stand in the texts of metadata of all kinds, with signatures.
func eachPlace(t *testing.T, list []api.Meta, try func(v api.Value, p place, at api.Value)) {
	t.Helper()
	for _, m := range list {
		v, e := parse.Parse(textOf(m, sigRow(2)...))
		if e != api.OK {
			t.Fatal(e)
		}
		for _, p := range placesOf(v) {
			try(v, p, standsAt(v, p))
		}
	}
}

// someValues are a few of each kind.
func someValues() []api.Value {
	one := value.List(value.Number(1))
	m, _ := value.Map(api.Pair{Key: "id", V: value.Text("a")})
	n, _ := value.Map()
	return []api.Value{value.Number(0), value.Number(1), value.Number(-1), value.Text(""), value.Text("1"), value.Text("root"), value.List(), one, value.List(value.Text("a")), value.List(m), m, n}
}

// P15.1: each value that stands in a text, one of another kind in its place.
func TestFieldsOfAnotherKind(t *testing.T) {
	t.Parallel()
	tried := 0
	eachPlace(t, small(), func(v api.Value, p place, at api.Value) {
		for _, w := range someValues() {
			if w.Kind != at.Kind {
				tried++
				refuses(t, fmt.Sprint("at ", p), spelled(t, replaced(v, p, w)), api.ErrSchema)
			}
		}
	})
	if tried < 1300 {
		t.Errorf("%d tried", tried)
	}
}

// P15.1: each value that stands in a text, another one of its kind in its place: what the text tells then.
func TestOtherFields(t *testing.T) {
	t.Parallel()
	read := 0
	eachPlace(t, small(), func(v api.Value, p place, at api.Value) {
		var list []api.Value
		switch at.Kind {
		case api.VNumber:
			for _, n := range []int64{-latest, -1, 0, 1, 2, 3, 4, 5, 16, 17, 90, 65536, 65537, million, million + 1, 1 << 32, 1<<32 + 1, latest - 1, latest} {
				list = append(list, value.Number(n))
			}
		case api.VText:
			for _, s := range []string{"", "a", "b", "z", "root", "timestamp", "snapshot", "targets", "one", "A", strings.ToUpper(at.S), at.S + "0", at.S + "00", at.S[:len(at.S)-1], at.S[1:], at.S + at.S, strings.Repeat("0", len(at.S)), strings.Repeat("f", len(at.S)), strings.Repeat("g", len(at.S)), "\x80", " ", "*", "0x00"} {
				list = append(list, value.Text(s))
			}
		default:
			list = someValues()
		}
		for _, w := range list {
			if s := spelled(t, replaced(v, p, w)); w.Kind == at.Kind && s != spelled(t, v) {
				reads(t, fmt.Sprint("at ", p), s)
				if _, _, e := told(s); e == api.OK {
					read++
				}
			}
		}
	})
	if read < 100 {
		t.Errorf("%d are read", read)
	}
}

// P15.1: a map with a key too few, one too many, one of another name, and one whose values have changed places.
func TestOtherKeys(t *testing.T) {
	t.Parallel()
	tried := 0
	eachPlace(t, small(), func(v api.Value, p place, at api.Value) {
		if at.Kind != api.VMap {
			return
		}
		tried++
		refuse := func(what string, w api.Value) {
			t.Helper()
			refuses(t, fmt.Sprintf("at %v: %s", p, what), spelled(t, replaced(v, p, w)), api.ErrSchema)
		}
		pairs := pairsOf(at)
		for i, key := range at.Keys {
			refuse("without "+key, mapOf(t, without(pairs, i)))
			for _, name := range []string{"", "a", "zz", strings.ToUpper(key), key + "s", key[1:], key[:len(key)-1]} {
				refuse(key+" as "+name, mapOf(t, put(pairs, i, api.Pair{Key: name, V: at.Items[i]})))
			}
		}
		known := []string{"meta", "sigs", "kind", "version", "expires", "keys", "log", "roles", "files", "delegs", "id", "public", "sig", "ids", "need", "name", "size", "sum", "last", "paths", "role"}
		for _, key := range append(known, "", "a", "id2", "zz", "\x80") {
			for _, w := range someValues() {
				if !slices.Contains(at.Keys, key) {
					refuse("with "+key, mapOf(t, append(slices.Clone(pairs), api.Pair{Key: key, V: w})))
				}
			}
		}
	})
	if tried < 36 {
		t.Errorf("%d tried", tried)
	}
}

func pairsOf(v api.Value) []api.Pair {
	var out []api.Pair
	for i, key := range v.Keys {
		out = append(out, api.Pair{Key: key, V: v.Items[i]})
	}
	return out
}

func mapOf(t *testing.T, pairs []api.Pair) api.Value {
	t.Helper()
	v, e := value.Map(pairs...)
	if e != api.OK {
		t.Fatal(e)
	}
	return v
}

// P15.1: lists with an item too few, one twice, items that have changed places, and one of another kind more.
func TestOtherItems(t *testing.T) {
	t.Parallel()
	eachPlace(t, small(), func(v api.Value, p place, at api.Value) {
		if at.Kind != api.VList {
			return
		}
		read := func(what string, items ...api.Value) {
			t.Helper()
			reads(t, fmt.Sprintf("at %v: %s", p, what), spelled(t, replaced(v, p, value.List(items...))))
		}
		read("nothing")
		read("in itself", at)
		for i, item := range at.Items {
			read("one less", without(at.Items, i)...)
			read("one twice", slices.Insert(slices.Clone(at.Items), i, item)...)
			for j := range i {
				read("changed places", swapped(at.Items, i, j)...)
			}
			for _, w := range someValues() {
				read("one more", slices.Insert(slices.Clone(at.Items), i, w)...)
				read("another one", put(at.Items, i, w)...)
			}
		}
	})
}

// P15.1: bytes are of just their digits: of great letters, too few, too many, none, or others.
func TestDigits(t *testing.T) {
	t.Parallel()
	tried := 0
	eachPlace(t, small(), func(v api.Value, p place, at api.Value) {
		if at.Kind != api.VText || len(at.S) < 64 {
			return
		}
		s := at.S
		for _, other := range []string{"", s[:1], s[:2], s[:len(s)-1], s[1:], s[:len(s)-2], s + "0", s + "00", "0" + s, s + s, strings.ToUpper(s), bytes(s), "g" + s[1:], s[:len(s)-1] + "g", "0x" + s[2:], " " + s[1:], s[:len(s)-1] + " "} {
			if value.Right(value.Text(other)) {
				tried++
				refuses(t, fmt.Sprint("at ", p), spelled(t, replaced(v, p, value.Text(other))), api.ErrSchema)
			}
		}
		for at := range s {
			if s[at] >= 'a' {
				refuses(t, "one great letter", spelled(t, replaced(v, p, value.Text(s[:at]+strings.ToUpper(s[at:at+1])+s[at+1:]))), api.ErrSchema)
			}
		}
	})
	if tried < 300 {
		t.Errorf("%d tried", tried)
	}
}

// P15.1: `last` is 1 or 0.
func TestLastOfText(t *testing.T) {
	t.Parallel()
	m := targets()
	s := textOf(m)
	for _, at := range []int{0, 1} {
		from := strings.Index(s, `"last":`) + len(`"last":`)
		if at == 1 {
			from = strings.LastIndex(s, `"last":`) + len(`"last":`)
		}
		for _, n := range []int{-latest, -2, -1, 0, 1, 2, 3, 10, 11, 256, 257, 1 << 32, 1<<32 + 1, latest} {
			other := s[:from] + fmt.Sprint(n) + s[from+1:]
			if n == 0 || n == 1 {
				readsAs(t, "last", other, with(m, func(m *api.Meta) { m.Delegs[at].Last = n == 1 }))
			} else {
				refuses(t, fmt.Sprint("last of ", n), other, api.ErrSchema)
			}
		}
	}
}

// P15.1: the value of metadata of one kind under the name of another one, and with the fields that it has not.
func TestTextsOfOtherKinds(t *testing.T) {
	t.Parallel()
	for _, m := range ordinary() {
		for _, kind := range []string{"root", "timestamp", "snapshot", "targets", "", "Root", "ROOT", "mirror", "roots", "1", "4"} {
			s := strings.Replace(textOf(m, sigRow(1)...), `"kind":"`+kinds[m.Kind]+`"`, `"kind":"`+kind+`"`, 1)
			reads(t, "as "+kind, s)
			if _, _, e := told(s); kind != kinds[m.Kind] && e == api.OK && !(m.Kind == 2 && kind == "snapshot") {
				t.Errorf("Kind %d is read as %s", m.Kind, kind)
			}
		}
	}
	for _, s := range []string{
		`{"meta":{"expires":4,"files":[],"keys":[],"kind":"snapshot","version":3},"sigs":[]}`,
		`{"meta":{"delegs":[],"expires":4,"files":[],"kind":"snapshot","version":3},"sigs":[]}`,
		`{"meta":{"expires":4,"files":[],"kind":"snapshot","log":"","version":3},"sigs":[]}`,
		`{"meta":{"expires":4,"files":[],"kind":"snapshot","roles":[],"version":3},"sigs":[]}`,
		`{"meta":{"delegs":[],"expires":4,"files":[],"keys":[],"kind":"targets","roles":[],"version":3},"sigs":[]}`,
		`{"meta":{"delegs":[],"expires":4,"files":[],"keys":[],"kind":"targets","log":"","version":3},"sigs":[]}`,
		`{"meta":{"expires":4,"files":[],"kind":3,"version":3},"sigs":[]}`,
		`{"meta":{"expires":4,"files":[],"kind":"snapshot","version":"3"},"sigs":[]}`,
		strings.Replace(textOf(root()), `"keys":`, `"files":[],"keys":`, 1),
		strings.Replace(textOf(root()), `"expires":`, `"delegs":[],"expires":`, 1),
	} {
		refuses(t, "a field that the kind has not", s, api.ErrSchema)
	}
}
