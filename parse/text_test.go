package parse_test

import (
	"fmt"
	"strings"
	"testing"

	"imprimatur/api"
)

// place is one in which a text may stand: what is around it, and which value the whole is then.
type place struct {
	what, ahead, behind string
	of                  func(s string) api.Value
}

func places() []place {
	return []place{
		{"alone", "", "", text},
		{"in a list", `[1,`, `,2]`, func(s string) api.Value { return list(num(1), text(s), num(2)) }},
		{"by a key", `{"a":`, `}`, func(s string) api.Value { return keyed(pair("a", text(s))) }},
		{"as a key", `{`, `:7}`, func(s string) api.Value { return keyed(pair(s, num(7))) }},
		{"as a key within", `[{`, `:[]}]`, func(s string) api.Value { return list(keyed(pair(s, list()))) }},
	}
}

// reads holds that a text in quotes is read as this one, wherever it stands.
func reads(t *testing.T, what, quoted, want string) {
	t.Helper()
	for _, p := range places() {
		parses(t, what+", "+p.what, p.ahead+quoted+p.behind, p.of(want))
	}
}

// readsNot holds that a text in quotes has this error, wherever it stands; not where one that ends early has something behind it.
func readsNot(t *testing.T, what, quoted string, want api.Errno) {
	t.Helper()
	for _, p := range places() {
		parsesNot(t, what+", "+p.what, p.ahead+quoted, want)
		if want != api.ErrShort {
			parsesNot(t, what+", "+p.what, p.ahead+quoted+p.behind, want)
		}
	}
}

// P12.1: each byte, alone, at each place of a text, and behind a bar.
func TestParseOfTexts(t *testing.T) {
	t.Parallel()
	reads(t, "an empty text", `""`, "")
	for b := range 256 {
		s := string([]byte{byte(b)})
		for _, around := range [][2]string{{"", ""}, {"a", ""}, {"", "a"}, {"ab", "cd"}, {`\\`, `\"`}, {"\xff", "\x80"}} {
			in := `"` + around[0] + s + around[1] + `"`
			what := fmt.Sprintf("byte %d", b)
			switch {
			case b < 32:
				readsNot(t, what, in, api.ErrSyntax)
			case b != '"' && b != '\\':
				reads(t, what, in, unmarked.Replace(around[0]+s+around[1]))
			}
			marked := `"` + around[0] + `\` + s + around[1] + `"`
			if b == '"' || b == '\\' {
				reads(t, "marked "+what, marked, unmarked.Replace(around[0]+`\`+s+around[1]))
			} else {
				readsNot(t, "marked "+what, marked, api.ErrSyntax)
			}
		}
	}
	for in, want := range map[string]string{
		`"\""`: `"`, `"\\"`: `\`, `"\\\""`: `\"`, `"\"\\"`: `"\`, `"\\\\"`: `\\`, `"\"\""`: `""`, `"\\\\\\\""`: `\\\"`, `"a\"b\"c"`: `a"b"c`, `"\\n"`: `\n`, `"[1,{}]"`: `[1,{}]`, "\"\u2028ä€\"": "\u2028ä€", `"/"`: `/`,
	} {
		reads(t, "a text with marks", in, want)
	}
	for _, in := range []string{`"\n"`, `"\u0041"`, `"\/"`, `"\ "`, `"\` + "\x00", `"\` + "\n\"", `"\` + "\xff\"", `"a\a"`, `"\\\a"`, "\"\n\"", "\"\x00", "\"\x1f\"", "\"\\\\\x1f", "\"\\\"\t"} {
		readsNot(t, "a text with what may not be in it", in, api.ErrSyntax)
	}
	for _, in := range []string{`"`, `"\`, `"a`, `"a\`, `"\"`, `"\\`, `"\\\`, `"\"\`, `"a\"b`, `"\\\"`, "\"\xff"} {
		readsNot(t, "a text that ends early", in, api.ErrShort)
	}
	parsesNot(t, "a bar at the end", `["\"]`, api.ErrShort)
	parsesNot(t, "a key that goes on", `{"\":1}`, api.ErrShort)
}

// P12.1: as long as may be, and longer, in whatever bytes; a mark counts not, what it stands ahead of does.
func TestParseOfLongTexts(t *testing.T) {
	t.Parallel()
	for _, unit := range []string{"a", " ", "\x7f", "\x80", "\xff", "[", `\"`, `\\`, "\xc3\xa4"[:1], "ab", `a\"`, `\\b`, "\xe2\x82\xac"} {
		one := unmarked.Replace(unit)
		for _, n := range []int{0, 1, 2, 100, 3998, 3999, 4000, 4001, 4002, 5000, 8000, 8001} {
			units := strings.Repeat(unit, n/len(one)) + strings.Repeat("c", n%len(one))
			want := strings.Repeat(one, n/len(one)) + strings.Repeat("c", n%len(one))
			what := fmt.Sprintf("%d bytes of %q", n, unit)
			if n <= long {
				reads(t, what, `"`+units+`"`, want)
			} else {
				readsNot(t, what, `"`+units+`"`, api.ErrLong)
			}
		}
	}
}

// P12.1: where a text has several faults, the first of them is told: byte by byte, and of one byte, that it is not there, may not be, or is too much, in this order.
func TestParseOfTextsWithSeveralFaults(t *testing.T) {
	t.Parallel()
	for _, unit := range []string{"a", `\"`, `\\`, "\xff"} {
		full := `"` + strings.Repeat(unit, long)
		readsNot(t, "as many as may be, and it ends", full, api.ErrShort)
		readsNot(t, "as many as may be, a bar, and it ends", full+`\`, api.ErrShort)
		readsNot(t, "as many as may be, and a byte below 32", full+"\x1f\"", api.ErrSyntax)
		readsNot(t, "as many as may be, and a byte below 32, and it ends", full+"\x00", api.ErrSyntax)
		readsNot(t, "as many as may be, and a wrong mark", full+`\a"`, api.ErrSyntax)
		readsNot(t, "as many as may be, and a mark of a byte below 32", full+"\\\n", api.ErrSyntax)
		for _, one := range []string{"a", `\"`, `\\`, " ", "\x80"} {
			over := full + one
			readsNot(t, "one too many", over+`"`, api.ErrLong)
			readsNot(t, "one too many, and it ends", over, api.ErrLong)
			readsNot(t, "one too many, a bar, and it ends", over+`\`, api.ErrLong)
			readsNot(t, "one too many, and a byte below 32", over+"\x1f\"", api.ErrLong)
			readsNot(t, "one too many, and a wrong mark", over+`\a"`, api.ErrLong)
			readsNot(t, "one too many, and many more", over+strings.Repeat(one, 999), api.ErrLong)
		}
		less := `"` + strings.Repeat(unit, long-1)
		readsNot(t, "one less, a byte below 32, and too many", less+"\x01"+strings.Repeat("a", 9)+`"`, api.ErrSyntax)
		readsNot(t, "one less, a wrong mark, and too many", less+`\b`+strings.Repeat("a", 9)+`"`, api.ErrSyntax)
		readsNot(t, "one less, and it ends", less+"a", api.ErrShort)
	}
	for _, s := range []string{"\x00" + `\a`, `\a` + "\x00", "\x1f", "\\\x1f\\", "\\\x00" + `"`, "\n" + `"` + "\x00"} {
		readsNot(t, "two wrong bytes", `"`+s, api.ErrSyntax)
		readsNot(t, "a wrong byte, and too many behind it", `"`+s+strings.Repeat("a", 2*long), api.ErrSyntax)
	}
}

// P12.1: all short texts of the bytes that count.
func TestParseOfShortTexts(t *testing.T) {
	t.Parallel()
	n := 0
	for _, s := range spelledOf([]string{`"`, `\`, "a", "\x1f", "\x7f", "\xff", ",", "]"}, 5) {
		for _, s := range []string{`"` + s, `["` + s, `{"` + s} {
			if parsesAsWords(t, "a text", s) {
				n++
			}
		}
	}
	if n < 1000 {
		t.Errorf("%d are texts of values", n)
	}
}
