package value_test

import (
	"fmt"
	"strings"
	"testing"

	"imprimatur/api"
	"imprimatur/value"
)

// prints holds that a value that may be has this text.
func prints(t *testing.T, what string, v api.Value, want string) {
	t.Helper()
	for _, v := range []api.Value{v, bare(v), hollow(v)} {
		if got, e := value.Print(v); got != want || e != api.OK {
			t.Errorf("%s: Print %.200q, %d, not %.200q", what, got, e, want)
		}
	}
}

// P11.1: the chapter's examples, and other known texts.
func TestPrint(t *testing.T) {
	t.Parallel()
	for _, c := range []struct {
		v    api.Value
		want string
	}{
		{list(num(1), text(`a"b`)), `[1,"a\"b"]`},
		{keyed(pair("a", list()), pair("b", num(-2))), `{"a":[],"b":-2}`},

		{num(0), `0`},
		{num(1), `1`},
		{num(-1), `-1`},
		{num(10), `10`},
		{num(-907), `-907`},
		{num(1023456789012), `1023456789012`},
		{num(-98765432109), `-98765432109`},
		{num(1099511627775), `1099511627775`},
		{num(1099511627776), `1099511627776`},
		{num(-1099511627775), `-1099511627775`},
		{num(-1099511627776), `-1099511627776`},

		{text(``), `""`},
		{text(`a`), `"a"`},
		{text(` `), `" "`},
		{text(`a b  c `), `"a b  c "`},
		{text(`"`), `"\""`},
		{text(`\`), `"\\"`},
		{text(`\"`), `"\\\""`},
		{text(`"\`), `"\"\\"`},
		{text(`""`), `"\"\""`},
		{text(`\\`), `"\\\\"`},
		{text(`\"\`), `"\\\"\\"`},
		{text(`"a\b"`), `"\"a\\b\""`},
		{text(`\n`), `"\\n"`},
		{text(`/<>&'`), `"/<>&'"`},
		{text(`[1,{"a":2}]`), `"[1,{\"a\":2}]"`},
		{text("\x7f\x80\xff"), "\"\x7f\x80\xff\""},
		{text("\xc3\"\xa4\\"), "\"\xc3\\\"\xa4\\\\\""},
		{text("\u2028ä€"), "\"\u2028ä€\""},

		{list(), `[]`},
		{list(num(0)), `[0]`},
		{list(num(1), num(2), num(3)), `[1,2,3]`},
		{list(list()), `[[]]`},
		{list(list(), list(), keyed()), `[[],[],{}]`},
		{list(text(""), text("")), `["",""]`},
		{list(list(num(1), list(num(-2))), num(3)), `[[1,[-2]],3]`},
		{list(num(1), list(list(num(2), num(3)), text("a"))), `[1,[[2,3],"a"]]`},

		{keyed(), `{}`},
		{keyed(pair("", num(0))), `{"":0}`},
		{keyed(pair("", text("")), pair(" ", list())), `{"":""," ":[]}`},
		{keyed(pair("a", num(1)), pair("aa", num(2)), pair("b", num(3))), `{"a":1,"aa":2,"b":3}`},
		{keyed(pair(`"`, num(1)), pair(`\`, num(2)), pair(`\"`, text(`"`))), `{"\"":1,"\\":2,"\\\"":"\""}`},
		{keyed(pair("a:b,c", keyed())), `{"a:b,c":{}}`},
		{keyed(pair("\x7f", num(1)), pair("\x80", num(2)), pair("\xff\"", num(3))), "{\"\x7f\":1,\"\x80\":2,\"\xff\\\"\":3}"},
		{keyed(pair("a", keyed(pair("b", list(keyed(pair("c", num(4))))))), pair("d", list(text(`\`)))), `{"a":{"b":[{"c":4}]},"d":["\\"]}`},
		{within(num(5), 11, list), `[[[[[[[[[[[5]]]]]]]]]]]`},
		{within(list(), 11, list), `[[[[[[[[[[[[]]]]]]]]]]]]`},
		{within(keyed(), 2, byPlace), `{"000000":{"000000":{}}}`},
	} {
		prints(t, short(c.v), c.v, c.want)
	}
}

// P11.1: at the edges the text is that of what may be; of what may not be ErrArg, with no text beside it.
func TestPrintAtTheEdges(t *testing.T) {
	t.Parallel()
	for _, e := range edges() {
		want, wantErr := "", api.ErrArg
		if e.may {
			want, wantErr = textOf(e.v), api.OK
		}
		if got, e1 := value.Print(e.v); got != want || e1 != wantErr {
			t.Errorf("%s: Print %.200q, %d, not %.200q, %d", e.what, got, e1, want, wantErr)
		}
	}
}

// P11.1: numbers of all lengths.
func TestPrintOfNumbers(t *testing.T) {
	t.Parallel()
	look := func(n int64) {
		if n >= -far && n <= far {
			prints(t, "a number", num(n), fmt.Sprint(n))
			prints(t, "a number in a list", list(num(n), num(-n)), fmt.Sprintf("[%d,%d]", n, -n))
			return
		}
		if got, e := value.Print(num(n)); got != "" || e != api.ErrArg {
			t.Errorf("Print of %d: %q, %d", n, got, e)
		}
	}
	for bit := range 64 {
		for _, more := range []int64{-2, -1, 0, 1, 2} {
			look(1<<bit + more)
			look(-(1 << bit) + more)
		}
	}
	for n := int64(1); n < 1e18; n *= 10 {
		look(n)
		look(n - 1)
		look(-n)
		look(1 - n)
		look(n * 7)
	}
	for n := range int64(2100) {
		look(n - 1050)
	}
}

// spelledOf are all texts of at most so many of these letters.
func spelledOf(letters []string, longest int) []string {
	out := []string{""}
	for from, n := 0, 0; n < longest; n++ {
		to := len(out)
		for _, head := range out[from:to] {
			for _, letter := range letters {
				out = append(out, head+letter)
			}
		}
		from = to
	}
	return out
}

// P11.1: quotes and bars at all places, beside all else, in texts and in keys.
func TestPrintOfTexts(t *testing.T) {
	t.Parallel()
	for _, s := range spelledOf([]string{`"`, `\`, "a", "\x7f", "\x80", "\xff", " ", "n", ","}, 4) {
		prints(t, "a text", text(s), marked(s))
		prints(t, "a key", keyed(pair(s, num(1))), "{"+marked(s)+":1}")
		prints(t, "both", list(text(s), keyed(pair(s, text(s)))), "["+marked(s)+",{"+marked(s)+":"+marked(s)+"}]")
	}
	for a := 32; a < 256; a++ {
		for b := 32; b < 256; b++ {
			s := string([]byte{byte(a), byte(b)})
			if got, e := value.Print(text(s)); got != marked(s) || e != api.OK {
				t.Errorf("Print of %q: %q, %d", s, got, e)
			}
		}
	}
}

// P11.1: texts of ASCII alone are the library's JSON.
func TestPrintAsTheLibraryDoes(t *testing.T) {
	t.Parallel()
	n := 0
	look := func(what string, v api.Value) {
		s := textOf(v)
		if strings.ContainsFunc(s, func(r rune) bool { return r > 127 }) {
			return
		}
		n++
		prints(t, what, v, libraryText(t, v))
	}
	for _, e := range edges() {
		if e.may {
			look(e.what, e.v)
		}
	}
	for _, s := range spelledOf([]string{`"`, `\`, "a", "/", "<", "&", "\x7f", "u", "{"}, 4) {
		look("a text", list(text(s), keyed(pair(s, num(1)))))
	}
	if n < 5000 {
		t.Errorf("%d texts", n)
	}
}

// P11.1: the greatest text: as many values and as long texts as may be, with nothing in them that stands as it is.
func TestPrintOfTheGreatest(t *testing.T) {
	t.Parallel()
	v := byPlace(numbers(most - 1)...)
	for i := range v.Items {
		v.Keys[i] += strings.Repeat(`"`, long-len(v.Keys[i]))
		v.Items[i] = text(strings.Repeat(`\`, long))
	}
	got, e := value.Print(v)
	if want := textOf(v); got != want || e != api.OK {
		t.Errorf("Print: %d bytes, %d, not %d bytes", len(got), e, len(want))
	}
	// A pair is two quotes, a colon, two quotes more, 6 digits, and twice all else; commas and brackets stand around.
	if want := (most-1)*(5+6+2*(long-6)+2*long) + most; len(got) != want {
		t.Errorf("Print: %d bytes, not %d", len(got), want)
	}
}
