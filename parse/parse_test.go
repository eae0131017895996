package parse_test

import (
	"fmt"
	"slices"
	"strings"
	"testing"

	"imprimatur/api"
)

// P12.1: the chapter's examples, and other known texts.
func TestParse(t *testing.T) {
	t.Parallel()
	parses(t, "the chapter's example", `[1,"a"]`, list(num(1), text("a")))
	parsesNot(t, "the chapter's example", `{"b":1,"a":2}`, api.ErrOrder)
	parsesNot(t, "the chapter's example", `01`, api.ErrSyntax)
	for s, want := range wholes() {
		parses(t, "a known text", s, want)
	}
}

// P12.1: each kind of value stands in each kind, at the first, a middle and the last place.
func TestParseWithinOneAnother(t *testing.T) {
	t.Parallel()
	for s, v := range wholes() {
		if strings.Count(s, "[")+strings.Count(s, "{") > 8 {
			continue
		}
		parses(t, "alone in a list", "["+s+"]", list(v))
		parses(t, "alone by a key", `{"k":`+s+`}`, keyed(pair("k", v)))
		parses(t, "first", "["+s+`,0,"x"]`, list(v, num(0), text("x")))
		parses(t, "in the middle", "[0,"+s+`,"x"]`, list(num(0), v, text("x")))
		parses(t, "last", `[0,"x",`+s+"]", list(num(0), text("x"), v))
		parses(t, "first by keys", `{"a":`+s+`,"b":0,"c":"x"}`, keyed(pair("a", v), pair("b", num(0)), pair("c", text("x"))))
		parses(t, "in the middle by keys", `{"a":0,"b":`+s+`,"c":"x"}`, keyed(pair("a", num(0)), pair("b", v), pair("c", text("x"))))
		parses(t, "last by keys", `{"a":0,"b":"x","c":`+s+"}", keyed(pair("a", num(0)), pair("b", text("x")), pair("c", v)))
		for other, w := range wholes() {
			if strings.Count(other, "[")+strings.Count(other, "{") <= 8 {
				parses(t, "two", "[["+s+","+other+`],{"a":`+other+`,"b":`+s+"}]", list(list(v, w), keyed(pair("a", w), pair("b", v))))
			}
		}
	}
}

// P12.1: a text cut off behind each of its bytes is one that ends too early, wherever it is, but for a `-` without digits.
func TestParseOfWhatIsCutOff(t *testing.T) {
	t.Parallel()
	for s := range wholes() {
		for n := range len(s) {
			parsesAsWords(t, "cut off", s[:n])
			switch {
			case strings.Contains("-0123456789", s[:1]) && n > 0: // what is left of a number may be one
			case n > 0 && s[n-1] == '-':
				parsesNot(t, "cut off", s[:n], api.ErrSyntax)
			case strings.Count(s, "[")+strings.Count(s, "{") < deepest:
				parsesNot(t, "cut off", s[:n], api.ErrShort)
			}
		}
	}
	parsesNot(t, "nothing", "", api.ErrShort)
	for _, s := range []string{`"`, `"a`, `"\`, `"\"`, `"\\`, `"a\\\"b\`, `[`, `[1`, `[1,`, `["`, `[[`, `[[]`, `[[],`, `[{}`, `{`, `{"`, `{"a`, `{"a"`, `{"a":`, `{"a":1`, `{"a":1,`, `{"a":1,"`, `{"a":1,"b`, `{"a":1,"b"`, `{"a":1,"b":`, `{"a":{`, `{"a":[`, `{"a":[]`, `{"a":"\`} {
		parsesNot(t, "it ends", s, api.ErrShort)
		parsesNot(t, "it ends, in a list", "["+s, api.ErrShort)
		parsesNot(t, "it ends, by a key", `{"k":`+s, api.ErrShort)
	}
	parses(t, "what is left of a number", "10", num(10))
	parses(t, "what is left of a number", "1", num(1))
	parsesNot(t, "what is left of a number", "-", api.ErrSyntax)
}

// P12.1: behind a whole value nothing may stand.
func TestParseOfWhatHasMoreBehind(t *testing.T) {
	t.Parallel()
	for s, v := range wholes() {
		for b := range 256 {
			more := s + string([]byte{byte(b)})
			if digit := b >= '0' && b <= '9'; digit && v.Kind == 1 {
				parsesAsWords(t, "a digit behind", more)
			} else {
				parsesNot(t, "a byte behind", more, api.ErrSyntax)
			}
		}
		for other := range wholes() {
			if v.Kind != 1 || !strings.Contains("0123456789", other[:1]) {
				parsesNot(t, "a value behind", s+other, api.ErrSyntax)
			}
			parsesNot(t, "a value behind a comma", s+","+other, api.ErrSyntax)
		}
		for _, more := range []string{"\x00", " ", "\n", "]", "}", ",", ":", `"`, `\`, "]]", "}}", " 1", "[", "{", strings.Repeat("x", 1000)} {
			parsesNot(t, "more behind", s+more, api.ErrSyntax)
		}
	}
}

// outside are the places of a text that are in none of its texts: ahead of each byte, and behind all.
func outside(s string) []int {
	var out []int
	in := false
	for i := 0; i <= len(s); i++ {
		if !in {
			out = append(out, i)
		}
		switch {
		case i == len(s):
		case in && s[i] == '\\':
			i++
		case s[i] == '"':
			in = !in
		}
	}
	return out
}

// P12.1: no blanks stand anywhere but in texts.
func TestParseOfBlanks(t *testing.T) {
	t.Parallel()
	for s := range wholes() {
		for _, at := range outside(s) {
			for _, blank := range []string{" ", "\t", "\n", "\r", "\r\n", "  ", "\v", "\f", "\u00a0", "\ufeff", "/**/", "#"} {
				parsesNot(t, "a blank", s[:at]+blank+s[at:], api.ErrSyntax)
			}
		}
	}
	parses(t, "blanks in texts", `[" "," a b ",{" ":"  "}]`, list(text(" "), text(" a b "), keyed(pair(" ", text("  ")))))
	if got := outside(`{"a\"":[1]}`); !slices.Equal(got, []int{0, 1, 6, 7, 8, 9, 10, 11}) {
		t.Errorf("outside of texts: %v", got)
	}
}

// P12.1: what stands where a value must begin.
func TestParseOfFirstBytes(t *testing.T) {
	t.Parallel()
	for b := range 256 {
		s := string([]byte{byte(b)})
		switch {
		case b >= '0' && b <= '9':
			parses(t, "a digit", s, num(int64(b-'0')))
		case strings.Contains(`"[{`, s):
			parsesNot(t, "what begins", s, api.ErrShort)
		default:
			parsesNot(t, "no value", s, api.ErrSyntax)
			parsesNot(t, "no value, and a blank", s+" ", api.ErrSyntax)
			parsesNot(t, "no value in a list", "[0,"+s, api.ErrSyntax)
			parsesNot(t, "no value in a list", "[0,"+s+"]", api.ErrSyntax)
			parsesNot(t, "no value by a key", `{"a":`+s, api.ErrSyntax)
			parsesNot(t, "no value by a key", `{"a":`+s+"}", api.ErrSyntax)
		}
	}
	for _, s := range []string{"null", "true", "false", "nil", "a", "'a'", "`a`", "+1", ".5", "/", "(1)", "<1>", "\xef\xbb\xbf1", "\xff", "٣", "NaN", "x61"} {
		parsesNot(t, "no value", s, api.ErrSyntax)
		parsesNot(t, "no value in a list", "["+s+"]", api.ErrSyntax)
		parsesNot(t, "no value by a key", `{"a":`+s+"}", api.ErrSyntax)
		parsesNot(t, "no key", "{"+s+":1}", api.ErrSyntax)
	}
}

// P12.1: of a text of 65537 bytes it is told that it is too long, whatever stands in it; one of 65536 is read.
func TestParseOfTheLongest(t *testing.T) {
	t.Parallel()
	for _, unit := range []string{"a", `"`, "\xff"} {
		for _, n := range []int{10, 5000, whole - 1, whole} {
			v, full := filled(n, unit)
			if len(full) != n {
				t.Fatalf("%d bytes, not %d", len(full), n)
			}
			parses(t, "not too long", full, v)
			parsesNot(t, "a byte less", full[:n-1], api.ErrShort)
		}
		v, full := filled(whole, unit)
		_, less := filled(whole-1, unit)
		parsesNot(t, "as long as may be, with a byte behind the value", less+"]", api.ErrSyntax)
		parsesNot(t, "a byte more behind", full+" ", api.ErrLong)
		parsesNot(t, "more behind", full+full, api.ErrLong)
		_, more := filled(whole+1, unit)
		parsesNot(t, "a byte more within", more, api.ErrLong)
		parsesNot(t, "a byte more, that ends early", more[:whole]+" ", api.ErrLong)
		parsesNot(t, "a byte more, wrong from the first on", "x"+more[1:], api.ErrLong)
		if len(v.Items) < 8 {
			t.Errorf("%d texts", len(v.Items))
		}
	}
	for what, c := range map[string]struct {
		s    string
		want api.Errno
	}{
		"blanks":      {" ", api.ErrSyntax},
		"bytes of 0":  {"\x00", api.ErrSyntax},
		"ciphers":     {"0", api.ErrSyntax},
		"digits":      {"1", api.ErrLong},
		"bars":        {"-", api.ErrSyntax},
		"lists":       {"[", api.ErrDeep},
		"maps":        {"{", api.ErrSyntax},
		"quotes":      {`"`, api.ErrSyntax},
		"closed":      {"]", api.ErrSyntax},
		"commas":      {",", api.ErrSyntax},
		"empty lists": {"[]", api.ErrSyntax},
		"high bytes":  {"\xff", api.ErrSyntax},
	} {
		s := strings.Repeat(c.s, whole)
		parsesNot(t, what, s[:whole], c.want)
		parsesNot(t, what+", one too many", (s + s)[:whole+1], api.ErrLong)
		parsesNot(t, what+", far too many", s+s, api.ErrLong)
	}
	parsesNot(t, "a long text", `"`+strings.Repeat("a", whole-1), api.ErrLong)
	parsesNot(t, "what would be a value, with far too many behind", "1"+strings.Repeat(" ", 1<<22), api.ErrLong)
}

// P12.1: numbers at the edges.
func TestParseOfNumbers(t *testing.T) {
	t.Parallel()
	for s, want := range map[string]int64{
		"0": 0, "1": 1, "-1": -1, "9": 9, "-9": -9, "10": 10, "-10": -10, "100": 100, "2147483648": 1 << 31, "-4294967296": -1 << 32, "999999999999": 999999999999,
		"1099511627775": far - 1, "1099511627776": far, "-1099511627775": 1 - far, "-1099511627776": -far, "1000000000000": 1e12,
	} {
		parses(t, "a number", s, num(want))
		parses(t, "numbers in a list", "["+s+","+s+"]", list(num(want), num(want)))
		parses(t, "a number by a key", `{"a":`+s+`,"b":`+s+`}`, keyed(pair("a", num(want)), pair("b", num(want))))
	}
	for _, s := range []string{"-0", "00", "01", "-01", "-", "-a", "--1", "-+1", "-00", "000", "00000000000000000000", "-000000000000000000001", "0-", "1-", "1-1", "0a", "1a", "-1a", "12x", "1.0", "1.", "1e1", "0x1", "1_0", "-\"", "-[", "- 1", "1 1", "0 ", "01099511627777", "-09999999999999999999", "0" + strings.Repeat("9", 3000), "1099511627776a"} {
		parsesNot(t, "no number", s, api.ErrSyntax)
		parsesNot(t, "no number in a list", "["+s+"]", api.ErrSyntax)
		parsesNot(t, "no number by a key", `{"a":`+s+`}`, api.ErrSyntax)
	}
	for _, s := range []string{
		"1099511627777", "1099511627778", "1099511627786", "1199511627776", "2000000000000", "9999999999999", "10995116277760", "9223372036854775807", "9223372036854775808", "9223372036854775809", "18446744073709551615", "18446744073709551616", "18446744073709551617",
		"1000000000000000000", "9999999999999999999", "10000000000000000000", "99999999999999999999", "340282366920938463463374607431768211456", "36893488147419103233", strings.Repeat("1", 400), strings.Repeat("9", 3000), "1" + strings.Repeat("0", 5000), strings.Repeat("8", whole-10),
	} {
		for _, s := range []string{s, "-" + s} {
			parsesNot(t, "too great", s, api.ErrLong)
			parsesNot(t, "too great, with a letter behind", s+"a", api.ErrLong)
			parsesNot(t, "too great, in a list", "["+s+"]", api.ErrLong)
			parsesNot(t, "too great, in a list that ends", "[0,"+s, api.ErrLong)
			parsesNot(t, "too great, by a key", `{"a":`+s+`}`, api.ErrLong)
		}
	}
	for _, s := range []string{"0", "1", "12", "-12", "1099511627776"} {
		parsesNot(t, "it ends behind a number", "[0,"+s, api.ErrShort)
		parsesNot(t, "a number behind a number", "["+s+"-1]", api.ErrSyntax)
	}
}

// P12.1: numbers of all lengths, about each power of 2 and of 10, with their signs.
func TestParseOfNumbersOfAllLengths(t *testing.T) {
	t.Parallel()
	look := func(n int64) {
		s := fmt.Sprint(n)
		if n >= -far && n <= far {
			parses(t, "a number", s, num(n))
			parses(t, "a number in a list", "["+s+"]", list(num(n)))
			parsesNot(t, "a cipher ahead", strings.Replace("0"+s, "0-", "-0", 1), api.ErrSyntax)
		} else {
			parsesNot(t, "a number too great", s, api.ErrLong)
			parsesNot(t, "a number too great", s+"0", api.ErrLong)
		}
	}
	for bit := range 64 {
		for _, more := range []int64{-2, -1, 0, 1, 2} {
			look(1<<bit + more)
			look(-(1 << bit) + more)
		}
	}
	for n := int64(1); n < 1e18; n *= 10 {
		for _, n := range []int64{n, n - 1, n + 1, 7 * n, 9 * n} {
			look(n)
			look(-n)
		}
	}
	for n := range int64(2100) {
		look(n - 1050)
	}
	for _, s := range spelledOf([]string{"-", "0", "1", "9", "a"}, 5) {
		parsesAsWords(t, "digits", s)
		parsesAsWords(t, "digits in a list", "["+s+"]")
	}
	for n := 1; n < 30; n++ {
		for _, digit := range []string{"0", "1", "9"} {
			for _, sign := range []string{"", "-"} {
				parsesAsWords(t, "digits", sign+strings.Repeat(digit, n))
				parsesAsWords(t, "digits", sign+"1"+strings.Repeat(digit, n))
			}
		}
	}
}
