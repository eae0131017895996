package parse_test

import (
	"encoding/json"
	"fmt"
	"io"
	"math/big"
	"reflect"
	"regexp"
	"slices"
	"strings"
	"testing"

	"imprimatur/api"
	"imprimatur/parse"
)

const (
	far     = 1 << 40 // how far a number may be from 0
	long    = 4000    // bytes of a text
	deepest = 12
	most    = 2000
	whole   = 65536 // bytes of all
)

// num, text, list and keyed are values, made without the program's own calls.
func num(n int64) api.Value {
	return api.Value{Kind: 1, N: n}
}

func text(s string) api.Value {
	return api.Value{Kind: 2, S: s}
}

func list(items ...api.Value) api.Value {
	return api.Value{Kind: 3, Items: items}
}

func keyed(pairs ...api.Pair) api.Value {
	v := api.Value{Kind: 4}
	for _, p := range pairs {
		v.Keys, v.Items = append(v.Keys, p.Key), append(v.Items, p.V)
	}
	return v
}

func pair(key string, v api.Value) api.Pair {
	return api.Pair{Key: key, V: v}
}

// bare is a copy of a value with nil for each list that is empty.
func bare(v api.Value) api.Value {
	out := v
	out.Keys = append([]string(nil), v.Keys...)
	out.Items = nil
	for _, item := range v.Items {
		out.Items = append(out.Items, bare(item))
	}
	return out
}

func same(v, w api.Value) bool {
	return reflect.DeepEqual(bare(v), bare(w))
}

// short is what a test tells of anything.
func short(x any) string {
	if s, is := x.(string); is {
		return fmt.Sprintf("%.200q (%d bytes)", s, len(s))
	}
	return fmt.Sprintf("%.300s", fmt.Sprintf("%+v", x))
}

// parses holds that a text is that of this value, also by the chapter's words.
func parses(t *testing.T, what, s string, want api.Value) {
	t.Helper()
	if got, e := parse.Parse(s); e != api.OK || !same(got, want) {
		t.Errorf("%s: Parse of %s: %s, %d, not %s", what, short(s), short(got), e, short(want))
	}
	if got, e := byWords(s); e != api.OK || !same(got, want) {
		t.Errorf("%s: by the chapter's words %s is %s, %d, not %s", what, short(s), short(got), e, short(want))
	}
}

// parsesNot holds that a text has this error, with no value beside it, also by the chapter's words.
func parsesNot(t *testing.T, what, s string, want api.Errno) {
	t.Helper()
	if got, e := parse.Parse(s); e != want || !same(got, api.Value{}) {
		t.Errorf("%s: Parse of %s: %s, %d, not %d", what, short(s), short(got), e, want)
	}
	if _, e := byWords(s); e != want {
		t.Errorf("%s: by the chapter's words %s has %d, not %d", what, short(s), e, want)
	}
}

// parsesAsWords holds that a text is, or has as error, what the chapter's words say, and tells whether it is a value's.
func parsesAsWords(t *testing.T, what, s string) bool {
	t.Helper()
	want, wantErr := byWords(s)
	if got, e := parse.Parse(s); e != wantErr || !same(got, want) {
		t.Errorf("%s: Parse of %s: %s, %d, not %s, %d", what, short(s), short(got), e, short(want), wantErr)
	}
	return wantErr == api.OK
}

// words go by the chapter's words from a text's beginning on; values within values are calls within calls.
type words struct {
	begun int
}

func byWords(s string) (api.Value, api.Errno) {
	if len(s) > whole {
		return api.Value{}, api.ErrLong
	}
	v, rest, e := new(words).value(s, 0)
	if e == api.OK && rest != "" {
		e = api.ErrSyntax
	}
	if e != api.OK {
		return api.Value{}, e
	}
	return v, api.OK
}

// value, and each below it, answers what it read, what stands behind that, and an error.
func (w *words) value(s string, around int) (api.Value, string, api.Errno) {
	switch {
	case around >= deepest:
		return api.Value{}, "", api.ErrDeep
	case w.begun >= most:
		return api.Value{}, "", api.ErrMany
	case s == "":
		return api.Value{}, "", api.ErrShort
	}
	w.begun++
	switch first, rest := s[:1], s[1:]; {
	case strings.Contains("-0123456789", first):
		return aNumber(s)
	case first == `"`:
		read, rest, e := aText(rest)
		return text(read), rest, e
	case first == "[":
		return w.list(rest, around+1)
	case first == "{":
		return w.keyed(rest, around+1)
	}
	return api.Value{}, "", api.ErrSyntax
}

var (
	numberAhead = regexp.MustCompile(`^-?[0-9]*`)
	numberRight = regexp.MustCompile(`^(0|-?[1-9][0-9]*)$`)
	textAhead   = regexp.MustCompile(`^([^"\\\x00-\x1f]|\\["\\])*`)
	unmarked    = strings.NewReplacer(`\\`, `\`, `\"`, `"`)
)

func aNumber(s string) (api.Value, string, api.Errno) {
	read := numberAhead.FindString(s)
	if !numberRight.MatchString(read) {
		return api.Value{}, "", api.ErrSyntax
	}
	n, _ := new(big.Int).SetString(read, 10)
	if n.CmpAbs(big.NewInt(far)) > 0 {
		return api.Value{}, "", api.ErrLong
	}
	return num(n.Int64()), s[len(read):], api.OK
}

// aText goes as far as all is right: if that is too much, it is so ahead of whatever stands behind it.
func aText(s string) (string, string, api.Errno) {
	right := textAhead.FindString(s)
	read, rest := unmarked.Replace(right), s[len(right):]
	switch {
	case len(read) > long:
		return "", "", api.ErrLong
	case rest == "" || rest == `\`:
		return "", "", api.ErrShort
	case rest[0] != '"':
		return "", "", api.ErrSyntax
	}
	return read, rest[1:], api.OK
}

// aSign reads one of some signs.
func aSign(s, signs string) (string, string, api.Errno) {
	switch {
	case s == "":
		return "", "", api.ErrShort
	case !strings.Contains(signs, s[:1]):
		return "", "", api.ErrSyntax
	}
	return s[:1], s[1:], api.OK
}

func (w *words) list(s string, around int) (api.Value, string, api.Errno) {
	if rest, is := strings.CutPrefix(s, "]"); is {
		return list(), rest, api.OK
	}
	v := list()
	for {
		item, rest, e := w.value(s, around)
		if e != api.OK {
			return api.Value{}, "", e
		}
		v.Items = append(v.Items, item)
		sign, rest, e := aSign(rest, ",]")
		if e != api.OK || sign == "]" {
			return v, rest, e
		}
		s = rest
	}
}

func (w *words) keyed(s string, around int) (api.Value, string, api.Errno) {
	if rest, is := strings.CutPrefix(s, "}"); is {
		return keyed(), rest, api.OK
	}
	v := keyed()
	for {
		key, rest, e := aKey(s, v.Keys)
		if e != api.OK {
			return api.Value{}, "", e
		}
		item, rest, e := w.value(rest, around)
		if e != api.OK {
			return api.Value{}, "", e
		}
		v.Keys, v.Items = append(v.Keys, key), append(v.Items, item)
		sign, rest, e := aSign(rest, ",}")
		if e != api.OK || sign == "}" {
			return v, rest, e
		}
		s = rest
	}
}

// aKey reads a key behind others, and its colon.
func aKey(s string, ahead []string) (string, string, api.Errno) {
	_, rest, e := aSign(s, `"`)
	if e != api.OK {
		return "", "", e
	}
	key, rest, e := aText(rest)
	if e != api.OK {
		return "", "", e
	}
	if slices.ContainsFunc(ahead, func(other string) bool { return key <= other }) {
		return "", "", api.ErrOrder
	}
	_, rest, e = aSign(rest, ":")
	return key, rest, e
}

// byLibrary is the value of a text, and whether it is one, by the library's JSON: for texts of ASCII alone, without blanks, points and letters outside of texts. It is told here alone that keys are in order, and that -0 is none.
func byLibrary(s string) (api.Value, bool) {
	if !json.Valid([]byte(s)) {
		return api.Value{}, false
	}
	d := json.NewDecoder(strings.NewReader(s))
	d.UseNumber()
	v, ok := libraryValue(d)
	_, err := d.Token()
	return v, ok && err == io.EOF
}

func libraryValue(d *json.Decoder) (api.Value, bool) {
	token, _ := d.Token()
	switch x := token.(type) {
	case json.Number:
		n, err := x.Int64()
		return num(n), err == nil && x.String() != "-0" && n >= -far && n <= far
	case string:
		return text(x), len(x) <= long
	}
	v, ok := list(), true
	if token == json.Delim('{') {
		v = keyed()
	}
	for d.More() {
		if v.Kind == 4 {
			key, _ := d.Token()
			v.Keys = append(v.Keys, key.(string))
		}
		item, right := libraryValue(d)
		v.Items, ok = append(v.Items, item), ok && right
	}
	_, _ = d.Token()
	inOrder := slices.Compact(slices.Sorted(slices.Values(v.Keys)))
	return v, ok && slices.Equal(v.Keys, inOrder)
}

// marked is a text in quotes, byte by byte.
func marked(s string) string {
	out := []byte{'"'}
	for _, b := range []byte(s) {
		if b == '"' || b == '\\' {
			out = append(out, '\\')
		}
		out = append(out, b)
	}
	return string(append(out, '"'))
}

// rowOf are so many of these, parted by commas.
func rowOf(n int, s string) string {
	return strings.Join(slices.Repeat([]string{s}, n), ",")
}

// filled is a list of texts, of this byte and at its end of others, whose own text has so many bytes; and that text.
func filled(n int, unit string) (api.Value, string) {
	v, parts := list(), []string{}
	put := func(s string) {
		v.Items = append(v.Items, text(s))
		parts = append(parts, marked(s))
		n -= len(marked(s)) + 1 // and the comma, or the list's end, behind it
	}
	n-- // for the list's beginning
	for n > 12000 {
		put(strings.Repeat(unit, long))
	}
	for n > 1000 {
		put(strings.Repeat("a", 500))
	}
	put(strings.Repeat("b", n-3))
	return v, "[" + strings.Join(parts, ",") + "]"
}

// spelledOf are all texts of at most so many of these letters.
func spelledOf(letters []string, longest int) []string {
	out := []string{""}
	for from, n := 0, 0; n < longest; n++ {
		to := len(out)
		for _, head := range out[from:to] {
			for _, letter := range letters {
				out = append(out, head+letter)
			}
		}
		from = to
	}
	return out
}

// wholes are texts of values of all kinds, within one another.
func wholes() map[string]api.Value {
	return map[string]api.Value{
		`0`:                    num(0),
		`-1`:                   num(-1),
		`1023`:                 num(1023),
		`-1099511627776`:       num(-1 << 40),
		`""`:                   text(""),
		`"abc"`:                text("abc"),
		`"\""`:                 text(`"`),
		`"\\"`:                 text(`\`),
		`"a\"b\\\\c "`:         text(`a"b\\c `),
		"\"\x7f\x80\xc3\xff\"": text("\x7f\x80\xc3\xff"),
		`[]`:                   list(),
		`[1]`:                  list(num(1)),
		`[1,"a"]`:              list(num(1), text("a")),
		`[[],[[]],{}]`:         list(list(), list(list()), keyed()),
		`[-7,"[,]",[0,10]]`:    list(num(-7), text("[,]"), list(num(0), num(10))),
		`{}`:                   keyed(),
		`{"":0}`:               keyed(pair("", num(0))),
		`{"a":1,"aa":2,"b":3}`: keyed(pair("a", num(1)), pair("aa", num(2)), pair("b", num(3))),
		`{"\"":"\\","\\":"\"","{":{"}":[{"x":-5}]}}`: keyed(pair(`"`, text(`\`)), pair(`\`, text(`"`)), pair("{", keyed(pair("}", list(keyed(pair("x", num(-5)))))))),
		`{"keys":[{"id":"0a","public":"ff"}],"kind":"root","version":12}`: keyed(
			pair("keys", list(keyed(pair("id", text("0a")), pair("public", text("ff"))))), pair("kind", text("root")), pair("version", num(12))),
		"[\"\xff\",{\"\x7f\":1,\"\x80\":[2,-3]},\"\"]": list(text("\xff"), keyed(pair("\x7f", num(1)), pair("\x80", list(num(2), num(-3)))), text("")),
		`[[[[[[[[[[[{}]]]]]]]]]]]`:                     within(keyed(), 11),
		`{"a":{"a":{"a":[[[[[[[[7]]]]]]]]}}}`:          keyed(pair("a", keyed(pair("a", keyed(pair("a", within(num(7), 8))))))),
	}
}

// within is v in so many lists, one around the other.
func within(v api.Value, levels int) api.Value {
	for range levels {
		v = list(v)
	}
	return v
}

// The words of this file lead where the chapter says.
func TestOracle(t *testing.T) {
	t.Parallel()
	for s, want := range wholes() {
		if got, e := byWords(s); e != api.OK || !same(got, want) {
			t.Errorf("by the chapter's words %s is %s, %d", s, short(got), e)
		}
		if got, is := byLibrary(s); !strings.ContainsFunc(s, func(r rune) bool { return r > 127 }) && (!is || !same(got, want)) {
			t.Errorf("by the library %s is %s, %t", s, short(got), is)
		}
	}
	for _, s := range []string{``, `01`, `-0`, `[-0]`, `{"b":1,"a":2}`, `{"a":1,"a":1}`, `1,2`, `[1`, `1099511627777`, `[99999999999999999999]`, `{"a":{"a":1,"":2}}`} {
		if got, is := byLibrary(s); is {
			t.Errorf("by the library %s is %s", s, short(got))
		}
	}
	if same(list(num(1)), list(num(2))) || same(keyed(pair("a", num(1))), keyed(pair("b", num(1)))) || !same(api.Value{Kind: 3, Items: []api.Value{}}, list()) {
		t.Error("same is wrong")
	}
}
