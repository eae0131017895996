package deleg_test

import (
	"fmt"
	"math/rand"
	"slices"
	"strings"
	"testing"

	"imprimatur/api"
	"imprimatur/deleg"
)

// follows holds P16.2 of a walk of a path through a row that may be.
func follows(t *testing.T, what, path string, held []api.Held) {
	t.Helper()
	walk, e := deleg.Walk(path, held)
	if e != api.OK {
		t.Fatalf("%s: %d", what, e)
	}
	if row := slices.Sorted(slices.Values(walk.Seen)); len(slices.Compact(row)) != len(walk.Seen) || len(walk.Seen) > most {
		t.Errorf("%s: seen %q", what, walk.Seen)
	}
	for _, name := range walk.Seen {
		if !slices.Contains(namesOf(held), name) {
			t.Errorf("%s: %s is seen, and is not held", what, name)
		}
	}
	for how, other := range othersOf(held, walk) {
		if got, e := deleg.Walk(path, other); !same(got, walk) || e != api.OK {
			t.Errorf("%s, %s: Walk of %q: %+v, %d, not %+v", what, how, path, got, e, walk)
		}
	}
	if walk.State == api.WWant && len(held) < most {
		goesOn(t, what, path, held, walk)
	}
}

// othersOf are rows that have the same of all roles that are seen.
func othersOf(held []api.Held, walk api.Walk) map[string][]api.Held {
	isSeen := func(h api.Held) bool { return slices.Contains(walk.Seen, h.Name) }
	var seen, rest []api.Held
	for _, h := range held {
		if isSeen(h) {
			seen = append(seen, h)
		} else {
			rest = append(rest, h)
		}
	}
	back := slices.Clone(held)
	slices.Reverse(back)
	out := map[string][]api.Held{
		"those seen alone":               seen,
		"those not seen first":           slices.Concat(rest, seen),
		"those not seen last":            slices.Concat(seen, rest),
		"the last one first":             back,
		"those not seen with other ones": slices.Clone(held),
	}
	for i, h := range held {
		if !isSeen(h) {
			out["those not seen with other ones"][i] = has(h.Name, files("a/x", "a", "x"), last("targets-2", "*", "*/*"))
		}
	}
	more := slices.Clone(held)
	for i := 0; len(more) < most; i++ {
		more = append(more, has(fmt.Sprint("not-seen-", i), files("a/x", "a", "x"), last("nor-this", "*", "*/*")))
	}
	for i := range rest {
		out[fmt.Sprint("without one not seen ", i)] = slices.DeleteFunc(slices.Clone(held), func(h api.Held) bool { return h.Name == rest[i].Name })
	}
	out["as many as there may be"] = more
	return out
}

// goesOn holds that with what is wanted held, too, a walk begins as it did.
func goesOn(t *testing.T, what, path string, held []api.Held, walk api.Walk) {
	t.Helper()
	seen := append(slices.Clone(walk.Seen), walk.Want)
	for how, one := range map[string]api.Held{
		"nothing": has(walk.Want),
		"a file":  has(walk.Want, files(path), last("no-one", path)),
		"others":  has(walk.Want, files("no/such/file"), on("targets-9", path), last("targets-8", path)),
	} {
		for _, at := range []int{0, len(held) / 2, len(held)} {
			got, e := agrees(t, what+", with what is wanted, of "+how, path, slices.Insert(slices.Clone(held), at, one))
			if e != api.OK || len(got.Seen) < len(seen) || !slices.Equal(got.Seen[:len(seen)], seen) {
				t.Errorf("%s: with %s of %s: %+v, %d, not on from %q", what, how, walk.Want, got, e, seen)
			}
			if how == "a file" && (got.By != walk.Want || got.File != fileOf(walk.Want, path) || len(got.Seen) != len(seen)) {
				t.Errorf("%s: the file of %s: %+v", what, walk.Want, got)
			}
		}
	}
}

// P16.2: fetched one by one as they are wanted, all comes to the same as with all held from the beginning, and what is seen only grows.
func TestFetchedOneByOne(t *testing.T) {
	t.Parallel()
	from := rand.New(rand.NewSource(162))
	met := map[int]int{}
	for range 300 {
		all := drawn(from)
		for _, path := range []string{"a", "a/x", "b/x"} {
			var held []api.Held
			var walk api.Walk
			for range most + 2 {
				next, e := agrees(t, "one more", path, held)
				if e != api.OK || len(next.Seen) < len(walk.Seen) || !slices.Equal(next.Seen[:len(walk.Seen)], walk.Seen) {
					t.Fatalf("%+v, %d, behind %+v", next, e, walk)
				}
				walk = next
				at := slices.IndexFunc(all, func(h api.Held) bool { return h.Name == walk.Want })
				if walk.State != api.WWant || at < 0 {
					break
				}
				held = slices.Insert(slices.Clone(held), from.Intn(len(held)+1), all[at])
			}
			if want, e := deleg.Walk(path, all); !same(walk, want) || e != api.OK || len(walk.Seen) != len(held) {
				t.Errorf("%q: %+v, not %+v, %d", path, walk, want, e)
			}
			met[walk.State]++
			if len(walk.Seen) > 8 {
				met[0]++
			}
		}
	}
	for state := range 4 {
		if met[state] < 40 {
			t.Errorf("met: %v", met)
		}
	}
}

// drawn is a row that may be, by a random source: roles that hand on to each other.
func drawn(from *rand.Rand) []api.Held {
	of := []string{"targets"}
	for i := range 1 + from.Intn([]int{4, 10, 31}[from.Intn(3)]) {
		of = append(of, fmt.Sprint("r", i))
	}
	var out []api.Held
	for _, name := range of {
		var parts []part
		if from.Intn(10) == 0 && name != "targets" {
			parts = append(parts, files("b", [...]string{"a", "a/x", "b/x"}[from.Intn(3)]))
		}
		others := slices.Clone(of[1:])
		from.Shuffle(len(others), func(i, j int) { others[i], others[j] = others[j], others[i] })
		for _, other := range others[:from.Intn(min(len(others), 9)+1)] {
			how := on
			if from.Intn(20) == 0 {
				how = last
			}
			parts = append(parts, how(other, [...]string{"a", "*", "a/*", "b/*", "*/x", "?/?", "*/*"}[from.Intn(7)], [...]string{"*/x", "a", "q", "?", "*/*"}[from.Intn(5)]))
		}
		if from.Intn(14) > 0 || name == "targets" {
			out = append(out, has(name, parts...))
		}
	}
	from.Shuffle(len(out), func(i, j int) { out[i], out[j] = out[j], out[i] })
	return out
}

// P16.1, P16.2: rows of all kinds, of which some may be and some may not.
func TestAnyRows(t *testing.T) {
	t.Parallel()
	from := rand.New(rand.NewSource(16))
	met := map[string]int{}
	for range 1500 {
		held, path := drawn(from), [...]string{"a", "a/x", "b/x", "a", "a/x", "b", "c", "q/x", "a/x/y", "*", ""}[from.Intn(11)]
		if from.Intn(5) == 0 {
			odd(from, held)
		}
		walk, e := agrees(t, "any row", path, held)
		met[fmt.Sprint(walk.State, e)]++
		if e == api.OK && from.Intn(4) == 0 {
			follows(t, "any row", path, held)
		}
	}
	for _, answer := range []string{"1 0", "2 0", "3 0", "0 1"} {
		if met[answer] < 50 || len(met) != 4 {
			t.Errorf("met: %v", met)
		}
	}
}

// odd changes one thing of a row, so that it may still be, or may not.
func odd(from *rand.Rand, held []api.Held) {
	h := &held[from.Intn(len(held))]
	*h = copied([]api.Held{*h})[0]
	text := [...]string{"", "a", "r1", "targets", "A", "a/x", "..", "snapshot", strings.Repeat("a", 33)}[from.Intn(9)]
	n := [...]int{0, 1, 2, 3, 4, 5, -1, 16, 1000000, 1000001, 1 << 40, 1<<40 + 1}[from.Intn(12)]
	switch from.Intn(9) {
	case 0:
		h.Name = text
	case 1:
		h.Name = held[from.Intn(len(held))].Name
	case 2:
		h.Meta.Kind = n
	case 3:
		h.Meta.Version = n
	case 4:
		h.Meta.Expires = n
	case 5:
		h.Meta.Files = append(h.Meta.Files, api.File{Name: text, Version: n, Sum: summed("x")})
	case 6:
		h.Meta.Delegs = append(h.Meta.Delegs, api.Deleg{Name: text, Role: roleOf("a", "b"), Paths: []string{"*"}})
	case 7:
		h.Meta.Delegs = append(h.Meta.Delegs, api.Deleg{Name: "x", Role: api.Role{Ids: roleOf("a", "b").Ids, Need: n}, Paths: []string{text}})
	case 8:
		h.Meta.Keys = append(h.Meta.Keys, api.Key{Id: text, Public: summed(text)})
	}
}

// smallOnes are all that may be held of a role which hands on to at most two of three, each Last or not; and with a file, if it is to have one.
func smallOnes(name string, hasFile bool) []api.Held {
	var out []api.Held
	var more []part
	if hasFile {
		more = append(more, files("x"))
	}
	hands := []func(string, ...string) part{on, last}
	out = append(out, has(name, more...))
	for _, first := range []string{"a", "b", "c"} {
		for _, how := range hands {
			out = append(out, has(name, append(more, how(first, "*"))...))
			for _, second := range []string{"a", "b", "c"} {
				for _, then := range hands {
					if second != first {
						out = append(out, has(name, append(more, how(first, "*"), then(second, "*"))...))
					}
				}
			}
		}
	}
	return out
}

// P16.1: all small rows: `targets`, `a` and `b` with all that they may hand on, where none has the file or one of them, or another one that is held, or none is held of that.
func TestAllSmallRows(t *testing.T) {
	t.Parallel()
	for i, first := range smallOnes("targets", false) {
		t.Run(fmt.Sprint(i), func(t *testing.T) {
			t.Parallel()
			for who, rest := range [][]api.Held{nil, nil, nil, {has("c", files("x"))}, {has("c", on("a", "*"))}} {
				for _, a := range smallOnes("a", who == 1) {
					for _, b := range smallOnes("b", who == 2) {
						agrees(t, "a small row", "x", append(rest, b, first, a))
					}
				}
			}
		})
	}
}

// roomy is a row with room behind its end, in which something stands.
func roomy[T any](row []T, room int, behind T) []T {
	return append(slices.Clone(row), slices.Repeat([]T{behind}, room)...)[:len(row)]
}

// withRoom is a row with room behind each list of it.
func withRoom(held []api.Held, room int) []api.Held {
	held = copied(held)
	for i := range held {
		m := &held[i].Meta
		m.Keys, m.Files = roomy(m.Keys, room, api.Key{Id: "behind"}), roomy(m.Files, room, api.File{Name: "behind"})
		m.Delegs = roomy(m.Delegs, room, api.Deleg{Name: "behind"})
		for i := range m.Delegs {
			d := &m.Delegs[i]
			d.Paths, d.Role.Ids = roomy(d.Paths, room, "behind"), roomy(d.Role.Ids, room, "behind")
		}
	}
	return roomy(held, room, api.Held{Name: "behind"})
}

// all is what stands in the lists of a row, and behind their ends.
func all(held []api.Held) string {
	var out strings.Builder
	for _, h := range held[:cap(held)] {
		fmt.Fprintf(&out, "%s %+v %+v %+v %+v\n", h.Name, h.Meta, h.Meta.Keys[:cap(h.Meta.Keys)], h.Meta.Files[:cap(h.Meta.Files)], h.Meta.Delegs[:cap(h.Meta.Delegs)])
		for _, d := range h.Meta.Delegs {
			fmt.Fprintf(&out, "%q %q\n", d.Paths[:cap(d.Paths)], d.Role.Ids[:cap(d.Role.Ids)])
		}
	}
	return out.String()
}

// someRows are such as each answer comes of, and such as may not be.
func someRows() [][]api.Held {
	out := [][]api.Held{
		nil, row(has("targets", on("a", "a/*"))), row(has("targets", on("a", "*/x"), on("b", "a/*")), has("a", on("c", "a/x"), on("b", "?/?")), has("c")),
		row(has("b", last("a", "*", "*/x"), on("b", "*")), has("targets", on("b", "*/*"), last("a", "*")), has("a", files("a/x"))), row(has("one"), has("targets", files("a/x"))),
		chain(31), chain(32), someHeld(32), someHeld(33),
	}
	for _, held := range wrongRows() {
		out = append(out, held)
	}
	from := rand.New(rand.NewSource(4))
	for range 20 {
		out = append(out, drawn(from))
	}
	return out
}

// R4: no call changes a list that it was handed, nor what stands behind it.
func TestListsStay(t *testing.T) {
	t.Parallel()
	for i, held := range someRows() {
		for _, room := range []int{0, 1, 5} {
			held := withRoom(held, room)
			was := all(held)
			deleg.Right(held)
			for _, path := range []string{"a", "a/x", "x", "b/x", "", "*"} {
				_, _ = deleg.Walk(path, held)
			}
			if now := all(held); now != was {
				t.Errorf("row %d, room for %d: %.500s, not %.500s", i, room, now, was)
			}
		}
	}
}

// R4: what Walk answers is new memory: whoever changes it changes neither what was handed in, nor another list of it.
func TestAnswersShareNothing(t *testing.T) {
	t.Parallel()
	spoilt := 0
	for i, held := range someRows() {
		for _, path := range []string{"a", "a/x", "x", "b/x"} {
			held := withRoom(held, 3)
			was := all(held)
			want, _ := deleg.Walk(path, held)
			for _, spoil := range []func(*api.Walk) int{
				func(w *api.Walk) int { return cleared(w.Seen) },
				func(w *api.Walk) int { return cleared(w.Role.Ids) },
				func(w *api.Walk) int { return cleared(w.Keys) },
			} {
				got, _ := deleg.Walk(path, held)
				spoilt += spoil(&got)
				other := want
				other.Seen, other.Role.Ids, other.Keys = slices.Clone(want.Seen), slices.Clone(want.Role.Ids), slices.Clone(want.Keys)
				spoil(&other)
				if again, _ := deleg.Walk(path, held); !same(got, other) || !same(again, want) || all(held) != was {
					t.Errorf("row %d, %q: %+v, %+v, not %+v", i, path, got, again, want)
				}
			}
		}
	}
	if spoilt < 300 {
		t.Errorf("%d spoilt", spoilt)
	}
}

// cleared makes all of a list, and of what room is behind it, zero, and tells how many there were.
func cleared[T any](list []T) int {
	clear(list[:cap(list)])
	return len(list)
}

// R1: no call keeps anything.
func TestNothingIsKept(t *testing.T) {
	t.Parallel()
	rows := someRows()
	round := func() string {
		var out strings.Builder
		for _, held := range rows[:9] {
			walk, e := deleg.Walk("a/x", held)
			fmt.Fprintf(&out, "%t %+v %d\n", deleg.Right(held), walk, e)
		}
		return out.String()
	}
	first := round()
	for _, held := range rows {
		for _, path := range []string{"a", "a/x", "..", "b/x"} {
			deleg.Right(held)
			_, _ = deleg.Walk(path, held)
		}
		if again := round(); again != first {
			t.Errorf("first %s, then %s", first, again)
		}
	}
}

// R1: calls side by side have nothing in common, though one row is handed to all.
func TestCallsSideBySide(t *testing.T) {
	t.Parallel()
	shared := drawn(rand.New(rand.NewSource(1)))
	for n := range 8 {
		t.Run(fmt.Sprint(n), func(t *testing.T) {
			t.Parallel()
			own := chain(n + 2)
			for range 60 {
				wants(t, "of its own", "x", own, own[n+1].Name, "behind", namesOf(own)...)
				agrees(t, "shared", []string{"a", "a/x"}[n%2], shared)
			}
		})
	}
}

// P1, P16.1, P16.2: no call panics, whatever it is handed, and each answers what the chapter says.
func FuzzAnyRow(f *testing.F) {
	for i, path := range append(wrongPaths()[:30], "a", "a/x", "b/x", "c") {
		f.Add(path, "r1", int64(i), i)
	}
	f.Add("a", "targets", int64(-1), -1<<63)
	f.Add("a/x", "", int64(1)<<62, 1<<63-1)
	f.Fuzz(func(t *testing.T, path, text string, seed int64, n int) {
		from := rand.New(rand.NewSource(seed))
		held := drawn(from)
		if _, e := agrees(t, "a row that may be", path, held); e == api.OK && len(path) < 200 {
			follows(t, "a row that may be", path, held)
		}
		agrees(t, "handed on by the text", path, append(held, has("x", on("r1", text), files(text))))
		agrees(t, "the text's", path, row(has("targets", on(text, "*", path), last("r2", text), files(text)), has(text, on("r1", path)), has("r1", files(path))))
		odd(from, held)
		agrees(t, "any row", path, held)
		agrees(t, "any row", text, held)
		agrees(t, "any fields", path, []api.Held{{Name: text, Meta: api.Meta{Kind: n, Version: n, Expires: n, Log: text}}, {Name: text, Meta: api.Meta{Kind: 4, Version: n, Expires: n}}})
	})
}
