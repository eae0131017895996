package parse_test

import (
	"fmt"
	"slices"
	"strings"
	"testing"

	"imprimatur/api"
)

// ways are those in which lists and maps stand around something: whether a list is on a level.
func ways() map[string]func(level int) bool {
	return map[string]func(level int) bool{
		"lists":              func(int) bool { return true },
		"maps":               func(int) bool { return false },
		"a list, then a map": func(level int) bool { return level%2 == 0 },
		"a map, then a list": func(level int) bool { return level%2 == 1 },
		"maps, then a list":  func(level int) bool { return level == 11 },
		"lists, then a map":  func(level int) bool { return level != 11 },
	}
}

// around is what stands around something, in so many lists and maps.
func around(isList func(level int) bool, levels int) (begin, end string) {
	for level := range levels {
		if isList(level) {
			begin, end = begin+"[", "]"+end
		} else {
			begin, end = begin+`{"a":`, "}"+end
		}
	}
	return begin, end
}

// standing is the value in which v stands there so.
func standing(v api.Value, isList func(level int) bool, levels int) api.Value {
	for level := levels - 1; level >= 0; level-- {
		if isList(level) {
			v = list(v)
		} else {
			v = keyed(pair("a", v))
		}
	}
	return v
}

// P12.1: what stands in 12 lists and maps is too deep; what 11 stand around is not, an empty list or map among them.
func TestParseOfDepths(t *testing.T) {
	t.Parallel()
	flat := map[string]api.Value{`0`: num(0), `-12`: num(-12), `"a"`: text("a"), `[]`: list(), `{}`: keyed()}
	for way, isList := range ways() {
		for levels := range 30 {
			begin, end := around(isList, levels)
			what := fmt.Sprintf("%s, %d", way, levels)
			for s, v := range flat {
				if levels < deepest {
					parses(t, what, begin+s+end, standing(v, isList, levels))
				} else {
					parsesNot(t, what, begin+s+end, api.ErrDeep)
				}
			}
			if levels > 0 && levels < deepest {
				parsesNot(t, what+", and it ends", begin, api.ErrShort)
			}
		}
	}
	parsesNot(t, "far too deep", strings.Repeat("[", whole), api.ErrDeep)
	parsesNot(t, "far too deep by keys", strings.Repeat(`{"":`, whole/4), api.ErrDeep)
	parsesNot(t, "wrong ahead of too deep", "[[[x,"+strings.Repeat("[", 20), api.ErrSyntax)
	parses(t, "many that are not deep", "["+rowOf(300, "[[[]]]")+"]", list(slices.Repeat([]api.Value{within(list(), 2)}, 300)...))
	parses(t, "deep ones side by side", "["+rowOf(100, "[[[[[[[[[[[]]]]]]]]]]]")+"]", list(slices.Repeat([]api.Value{within(list(), 10)}, 100)...))
	parsesNot(t, "too deep behind what is not", "["+rowOf(3, "[[[]]]")+","+strings.Repeat("[", 11)+"1", api.ErrDeep)
	parsesNot(t, "too deep behind what is as deep as may be", "["+rowOf(3, "[[[[[[[[[[[]]]]]]]]]]]")+","+strings.Repeat("[", 11)+"1", api.ErrDeep)
}

// P12.1: what is too deep is so whatever stands there, or if nothing does; what stands ahead of that place is looked at first.
func TestParseOfWhatIsTooDeepAndMore(t *testing.T) {
	t.Parallel()
	for way, isList := range ways() {
		begin, end := around(isList, 11)
		for _, s := range []string{"[", "[x", "[1", "[1]", "[[", "[,", "[ ", "[}", "[-", "[01", "[\x00", `["\a"`, "[99999999999999", `[{"b":1,"a":2}`, `{"a":`, `{"a":}`, `{"a":]`, `{"a":x`, `{"a":1`, `{"":{`, `{"a":"`} {
			parsesNot(t, way+", and one more", begin+s, api.ErrDeep)
			if s != "[" {
				parsesNot(t, way+", and one more", begin+s+end, api.ErrDeep)
			}
		}
		for s, want := range map[string]api.Errno{
			"": api.ErrShort, "x": api.ErrSyntax, "}": api.ErrSyntax, ",": api.ErrSyntax, "1": api.ErrShort, `"`: api.ErrShort, "99999999999999": api.ErrLong,
			"[]": api.ErrShort, "{}": api.ErrShort, "[]x": api.ErrSyntax, "{}{": api.ErrSyntax,
			"{": api.ErrShort, "{x": api.ErrSyntax, "{]": api.ErrSyntax, `{"`: api.ErrShort, `{"a`: api.ErrShort, `{"a"`: api.ErrShort, `{"a"}`: api.ErrSyntax, `{"\a":1`: api.ErrSyntax, `{"a"x`: api.ErrSyntax,
		} {
			parsesNot(t, way+", and no more", begin+s, want)
		}
	}
}

// manyOf are texts of so many values in all.
func manyOf(total int) map[string]string {
	out := map[string]string{"in one list": "[" + rowOf(total-1, "0") + "]"}
	var keys []string
	for i := range total - 1 {
		keys = append(keys, fmt.Sprintf(`"%06d":0`, i))
	}
	out["by keys"] = "{" + strings.Join(keys, ",") + "}"
	for _, wide := range []int{0, 1, 2, 9, 43, 500, 1000} {
		var lists, maps []string
		for left := total - 1; left > 0; {
			n := min(left-1, wide)
			lists = append(lists, "["+rowOf(n, `""`)+"]")
			maps = append(maps, "{"+strings.Join(keys[:n], ",")+"}")
			left -= n + 1
		}
		out[fmt.Sprintf("in lists of %d", wide)] = "[" + strings.Join(lists, ",") + "]"
		out[fmt.Sprintf("in maps of %d", wide)] = "[" + strings.Join(maps, ",") + "]"
	}
	chain, left := "0", total-2
	for range 10 {
		n := total / 11
		chain, left = "["+rowOf(n/2, "1")+","+chain+","+rowOf(n-n/2-1, "1")+"]", left-n
	}
	out["in lists within one another"] = "[" + chain + strings.Repeat(",2", left) + "]"
	return out
}

// P12.1: 2000 values may be, in one row and parted over several.
func TestParseOfMany(t *testing.T) {
	t.Parallel()
	for _, total := range []int{1998, 1999, 2000, 2001, 2002, 4000} {
		for what, s := range manyOf(total) {
			what := fmt.Sprintf("%d, %s", total, what)
			if total > most {
				parsesNot(t, what, s, api.ErrMany)
				continue
			}
			if !parsesAsWords(t, what, s) {
				t.Errorf("%s: no value", what)
			}
			parsesNot(t, what+", and a comma behind", s+",", api.ErrSyntax)
		}
	}
	zeros := slices.Repeat([]api.Value{num(0)}, 1999)
	parses(t, "as many as may be", "["+rowOf(1999, "0")+"]", list(zeros...))
	parses(t, "as many as may be, in lists", "["+rowOf(999, "[7]")+",7]", list(append(slices.Repeat([]api.Value{list(num(7))}, 999), num(7))...))
	parses(t, "as many as may be, an empty list as the last", "["+rowOf(1998, "0")+",[]]", list(append(zeros[:1998:1998], list())...))
	parses(t, "as many as may be, an empty map as the last", "["+rowOf(1998, "0")+",{}]", list(append(zeros[:1998:1998], keyed())...))
}

// P12.1: the next one that would begin is too many, whatever stands there, or if nothing does; what stands ahead of that place is looked at first.
func TestParseOfWhatIsTooManyAndMore(t *testing.T) {
	t.Parallel()
	for _, more := range []string{"", "}", ",", "1", "1]", `"`, `"a"]`, "[", "[]", "{", "x", "-", "01", " ", "99999999999999", "\x00", `"\a`, `{"b":1,"a":2}`} {
		parsesNot(t, "one too many", "["+rowOf(1999, "0")+","+more, api.ErrMany)
		parsesNot(t, "one too many, within", "["+rowOf(1997, "0")+",[0,"+more, api.ErrMany)
		parsesNot(t, "one too many in a list", "["+rowOf(1998, "0")+",["+more, api.ErrMany)
		parsesNot(t, "one too many by a key", "["+rowOf(1998, "0")+`,{"a":`+more, api.ErrMany)
		parsesNot(t, "one too many by another key", "["+rowOf(1997, "0")+`,{"a":0,"b":`+more, api.ErrMany)
	}
	for s, want := range map[string]api.Errno{
		"": api.ErrShort, ",": api.ErrShort, ",]": api.ErrSyntax, ",x": api.ErrSyntax, ",01": api.ErrSyntax, ",0": api.ErrShort, ",0x": api.ErrSyntax, ",0}": api.ErrSyntax, ",0,": api.ErrMany, ",0,]": api.ErrMany, ",[": api.ErrMany, ",[]": api.ErrShort, ",[],": api.ErrMany,
		",{": api.ErrShort, ",{}": api.ErrShort, ",{x": api.ErrSyntax, ",{]": api.ErrSyntax, `,{"a`: api.ErrShort, `,{"a"`: api.ErrShort, `,{"a"x`: api.ErrSyntax, `,{"\a":0`: api.ErrSyntax, `,{"a":`: api.ErrMany, `,{"a":}`: api.ErrMany,
	} {
		parsesNot(t, "behind as many as may be, but one", "["+rowOf(1998, "0")+s, want)
	}
	parsesNot(t, "keys in the wrong order ahead of too many", "["+rowOf(1997, "0")+`,{"b":0,"a":`, api.ErrOrder)
	parsesNot(t, "wrong ahead of too many", "["+rowOf(1000, "0")+",x,"+rowOf(2000, "0")+"]", api.ErrSyntax)
}

// P12.1: of what is too deep, too many and not there, or two of these, it is told first that it is too deep, then that it is too many.
func TestParseOfWhatIsTooDeepAndTooMany(t *testing.T) {
	t.Parallel()
	for way, isList := range ways() {
		begin, _ := around(isList, 11)
		less, _ := around(isList, 10)
		for _, s := range []string{"", "1", "x", "[", "{", `"`, "-", "\x00", "99999999999999"} {
			// A list, these zeros, and 11 lists and maps within it stand ahead of the place.
			for zeros, want := range map[int]api.Errno{1986: api.ErrDeep, 1987: api.ErrDeep, 1988: api.ErrDeep, 1989: api.ErrMany, 1990: api.ErrMany, 3000: api.ErrMany} {
				parsesNot(t, fmt.Sprintf("%s, %d zeros ahead, then %q", way, zeros, s), "["+rowOf(zeros, "0")+","+begin+s, want)
			}
			parsesNot(t, way+", one less around, but too many", "["+rowOf(1989, "0")+","+less+s, api.ErrMany)
		}
	}
}
