package parse_test

import (
	"fmt"
	"slices"
	"strings"
	"testing"

	"imprimatur/api"
)

// P12.1: lists and maps, and what may not stand in them.
func TestParseOfListsAndMaps(t *testing.T) {
	t.Parallel()
	for s, want := range map[string]api.Value{
		`[]`: list(), `[0]`: list(num(0)), `[0,0]`: list(num(0), num(0)), `[1,2,3,4]`: list(num(1), num(2), num(3), num(4)), `[[],[]]`: list(list(), list()), `["",""]`: list(text(""), text("")),
		`{}`: keyed(), `{"a":{}}`: keyed(pair("a", keyed())), `{"":[],"a":[[]]}`: keyed(pair("", list()), pair("a", list(list()))), `[{},[],{}]`: list(keyed(), list(), keyed()),
		`{"a":"b","c":"d","e":"f"}`: keyed(pair("a", text("b")), pair("c", text("d")), pair("e", text("f"))), `[{"a":1},{"a":1}]`: list(keyed(pair("a", num(1))), keyed(pair("a", num(1)))),
		`{"b":{"b":1},"c":{"a":1}}`: keyed(pair("b", keyed(pair("b", num(1)))), pair("c", keyed(pair("a", num(1))))), `{"b":{"a":{"c":1}},"d":2}`: keyed(pair("b", keyed(pair("a", keyed(pair("c", num(1)))))), pair("d", num(2))),
	} {
		parses(t, "a list or map", s, want)
	}
	for _, s := range []string{
		`,`, `:`, `[,]`, `[,1]`, `[1,]`, `[1,,2]`, `[1,,`, `[,`, `[1 2]`, `[1;2]`, `[1}`, `[}`, `[1,2}`, `[:`, `[1:2]`, `[1:`, `["a":1]`, `["a":`, `[[1}]`, `[{]`, `[[],]`, `]`, `[1"a"]`, `["a""b"]`, `[[][]]`, `[{}{}]`, `["a"1]`,
		`{,}`, `{,"a":1}`, `{"a":1,}`, `{"a":1,,"b":2}`, `{"a":1,,`, `{,`, `{]`, `{"a":1]`, `{"a":1,"b":2]`, `{:`, `{:1}`, `{"a"}`, `{"a",`, `{"a","b":1}`, `{"a"1}`, `{"a"]`, `{"a""b"}`, `{"a"::1}`, `{"a":,`, `{"a":}`, `{"a":]`, `{"a"=1}`, `{"a":1:`, `{"a":1 "b":2}`, `{"a":1"b":2}`, `{"a":1;"b":2}`, `}`, `{{}}`, `{[]}`, `{{`, `{[`, `{1`, `{1:2}`, `{-`, `{a:1}`, `{'a':1}`, `{"a":1,b:2}`, `{"a":1,2:3}`, `{"a":1,[`, `{"a":1,{`, `{"a":{]}`, `{"a":[}]`, `{"a" :1}`,
	} {
		parsesNot(t, "no list or map", s, api.ErrSyntax)
		parsesNot(t, "no list or map, in a list", "[1,"+s, api.ErrSyntax)
		parsesNot(t, "no list or map, by a key", `{"b":`+s, api.ErrSyntax)
	}
	for _, s := range []string{`[]]`, `[][]`, `[1]]`, `[[]]]`, `{}}`, `{}{}`, `{"a":1}}`, `[{}]}`, `{"a":[]}]`, `[],[]`, `{}:1`} {
		parsesNot(t, "more behind the end", s, api.ErrSyntax)
	}
}

// P12.1: each byte behind each place of lists and maps.
func TestParseOfEachByteInRows(t *testing.T) {
	t.Parallel()
	for _, begin := range []string{`[`, `[1`, `["a"`, `[[]`, `[1,`, `[1,2`, `{`, `{"a"`, `{"a":`, `{"a":1`, `{"a":"b"`, `{"a":1,`, `{"a":1,"b"`, `{"a":1,"b":`, `{"a":1,"b":2`, `[{"a":[]}`, `[{"a":[]`, `{"a":{"b":{}`, `{"a":{"b":{}}`} {
		read := 0
		for b := range 256 {
			s := begin + string([]byte{byte(b)})
			for _, end := range []string{"", "]", "}", "1]", "3}", `"b":2}`, `b":2}`, `:3}`, "]}", "}}"} {
				if parsesAsWords(t, "a byte in a row", s+end) {
					read++
				}
			}
		}
		if read < 1 || read > 40 {
			t.Errorf("%d texts that begin with %s are values", read, begin)
		}
	}
}

// keyOrders are keys in their order.
func keyOrders() [][]string {
	return [][]string{
		{"", "a"}, {"", " ", "!"}, {"a", "aa", "aaa", "ab"}, {"B", "a"}, {"10", "9"}, {"a", "a\x7f", "a\x80", "a\xff", "b"}, {"\x7f", "\x80", "\xc3\xa4", "\xe2\x82\xac", "\xff"}, {"z", "\xc3\xa4", "\xc3\xb6"}, {"\x80", "\xef\xbf\xbd", "\xf0\x9f"},
		{`!`, `"`, `#`}, {`[`, `\`, `]`}, {`"`, `""`, `"\`, `\`, `\"`, `\\`}, {`a`, `a"`, `a\`, `a]`, `b`}, {`a!`, `a"`, `a#`}, {`Z`, `\`, `a`},
		{strings.Repeat("a", 3999), strings.Repeat("a", 4000), strings.Repeat("a", 3999) + "b"},
	}
}

// keyedText is a map's text, of keys as they come.
func keyedText(keys ...string) string {
	var parts []string
	for i, key := range keys {
		parts = append(parts, marked(key)+":"+fmt.Sprint(i))
	}
	return "{" + strings.Join(parts, ",") + "}"
}

// P12.1: keys are in their order, byte by byte of what is read, and none is there twice.
func TestParseOfKeys(t *testing.T) {
	t.Parallel()
	for _, keys := range keyOrders() {
		want := keyed()
		for i, key := range keys {
			want.Keys, want.Items = append(want.Keys, key), append(want.Items, num(int64(i)))
		}
		parses(t, "keys in order", keyedText(keys...), want)
		parses(t, "keys in order, in a list", "[0,"+keyedText(keys...)+"]", list(num(0), want))
		for i := range keys {
			for j := range i + 1 {
				parsesNot(t, "a key behind one that is not less", keyedText(keys[i], keys[j]), api.ErrOrder)
				parsesNot(t, "a key behind others", keyedText(append(slices.Clone(keys[:i+1]), keys[j])...), api.ErrOrder)
				parsesNot(t, "such keys within", `{"b":[`+keyedText(keys[i], keys[j])+"]}", api.ErrOrder)
			}
		}
	}
	parsesNot(t, "an empty key twice", `{"":1,"":2}`, api.ErrOrder)
	parsesNot(t, "an empty key behind another one", `{"a":1,"":2}`, api.ErrOrder)
	parsesNot(t, "a key twice, with another one between", `{"a":1,"b":2,"a":3}`, api.ErrOrder)
	parses(t, "keys that are less than those around and ahead", `{"b":{"a":1},"c":[{"a":1},{"a":{"":1}}]}`, keyed(pair("b", keyed(pair("a", num(1)))), pair("c", list(keyed(pair("a", num(1))), keyed(pair("a", keyed(pair("", num(1)))))))))
	parsesNot(t, "keys that are greater than those within", `{"a":{"b":1},"a":2}`, api.ErrOrder)
	for _, key := range []string{`1`, `-1`, `[]`, `{}`, `a`, ` "a"`, `\"a"`, "\x00", ":"} {
		parsesNot(t, "no text as key", "{"+key+":1}", api.ErrSyntax)
		parsesNot(t, "no text as key", `{"a":1,`+key+":1}", api.ErrSyntax)
	}
}

// P12.1: of a key the text's error comes first, then its order, then what stands behind it.
func TestParseOfKeysWithSeveralFaults(t *testing.T) {
	t.Parallel()
	for _, end := range []string{``, `:`, `:1`, `:1}`, `}`, `,`, `1`, ` :1}`, `::`, `:"`, `:[[[[[[[[[[[[[[[[[`, "\x00", `""`, `:-`, `:99999999999999`} {
		for _, key := range []string{`"b"`, `"a"`, `""`, `"ab"`} {
			parsesNot(t, "in the wrong order", `{"b":0,`+key+end, api.ErrOrder)
			parsesNot(t, "in the wrong order, within", `[{"":[],"b":0,`+key+end, api.ErrOrder)
		}
	}
	parsesNot(t, "in the wrong order, and it ends", `{"b":0,"a`, api.ErrShort)
	parsesNot(t, "in the wrong order, with a wrong byte", "{\"b\":0,\"a\n\":1}", api.ErrSyntax)
	parsesNot(t, "in the wrong order, with a wrong mark", `{"b":0,"a\a":1}`, api.ErrSyntax)
	parsesNot(t, "in the wrong order, and too long", `{"b":0,"`+strings.Repeat("a", 4001)+`":1}`, api.ErrLong)
	parsesNot(t, "in the wrong order, and as long as may be", `{"b":0,"`+strings.Repeat("a", 4000)+`":1}`, api.ErrOrder)
	parsesNot(t, "in order, and it ends", `{"b":0,"c"`, api.ErrShort)
	parsesNot(t, "in order, without a colon", `{"b":0,"c",`, api.ErrSyntax)
	parsesNot(t, "a wrong value ahead of a wrong key", `{"b":01,"a":0}`, api.ErrSyntax)
	parsesNot(t, "a great value ahead of a wrong key", `{"b":1099511627777,"a":0}`, api.ErrLong)
	parsesNot(t, "a wrong key ahead of a great value", `{"b":0,"a":1099511627777}`, api.ErrOrder)
}
