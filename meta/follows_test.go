package meta_test

import (
	"fmt"
	"math/rand"
	"reflect"
	"slices"
	"strings"
	"testing"

	"imprimatur/api"
	"imprimatur/ed"
	"imprimatur/meta"
	"imprimatur/role"
)

// goesRound holds that what is printed is parsed as the same, and printed again is the text.
func goesRound(t *testing.T, m api.Meta, sigs ...api.Sig) {
	t.Helper()
	s, e := meta.Print(m, sigs...)
	if e != api.OK {
		t.Fatalf("Print of %+v with %d signatures: %d", m, len(sigs), e)
	}
	got, row, e := meta.Parse(s)
	if !same(got, m) || !slices.Equal(row, sigs) || e != api.OK {
		t.Errorf("Parse of %.1000q: %+v, %q, %d, not %+v, %q", s, got, row, e, m, sigs)
	}
	if again, e := meta.Print(got, row...); again != s || e != api.OK {
		t.Errorf("printed again: %.1000q, %d, not %.1000q", again, e, s)
	}
}

// P15.3, P6: what is printed is parsed as the same, with any signatures.
func TestPrintedIsParsed(t *testing.T) {
	t.Parallel()
	for _, m := range ordinary() {
		for n := range 17 {
			goesRound(t, m, sigRow(n)...)
			goesRound(t, m, slices.Repeat(sigRow(1), n)...)
		}
		goesRound(t, m, api.Sig{Id: strings.Repeat("0", 64), Sig: strings.Repeat("\x00", 64)})
	}
	for _, w := range byHand() {
		goesRound(t, w.m, sigRow(2)...)
	}
}

// P15.3: what is signed of metadata by its role's seeds is still signed by them once it was printed and parsed, and a role checks it.
func TestSignedIsParsed(t *testing.T) {
	t.Parallel()
	seeds := []string{summed("seed 1"), summed("seed 2")}
	var keys []api.Key
	for _, seed := range seeds {
		public, _ := ed.Public(seed)
		keys = append(keys, api.Key{Id: role.Id(public), Public: public})
	}
	slices.SortFunc(keys, func(a, b api.Key) int { return strings.Compare(a.Id, b.Id) })
	for _, m := range ordinary() {
		body, _ := meta.Body(m)
		sigs, _ := role.Sign(body, seeds...)
		s, _ := meta.Print(m, sigs...)
		got, row, e := meta.Parse(s)
		again, f := meta.Body(got)
		if again != body || e != api.OK || f != api.OK || role.Check(roleBy(2, keys...), keys, again, row) != api.OK {
			t.Errorf("Kind %d: %d, %d, %.200q", m.Kind, e, f, again)
		}
		if !strings.Contains(s, body) || role.Check(roleBy(1, keys...), keys, body+" ", row) != api.ErrFew {
			t.Errorf("Kind %d: what is signed does not stand in the text", m.Kind)
		}
	}
}

// keepsText holds that what is parsed, printed, is the text to the byte, and that Parse answers what the text tells.
func keepsText(t *testing.T, what, s string) bool {
	t.Helper()
	m, sigs, e := reads(t, what, s)
	if again, f := meta.Print(m, sigs...); e == api.OK && (again != s || f != api.OK) {
		t.Errorf("%s: %.1000q is read, and printed as %.1000q, %d", what, s, again, f)
	}
	return e == api.OK
}

// P15.3: texts that differ from a right one by one byte: another one, one less, one more.
func TestOneByteAnotherOne(t *testing.T) {
	t.Parallel()
	for i, m := range append(small(), byHand()[3].m, byHand()[5].m) {
		t.Run(fmt.Sprint(i), func(t *testing.T) {
			t.Parallel()
			if read := eachByte(t, textOf(m, sigRow(1)...)); read < 200 {
				t.Errorf("%d are read", read)
			}
		})
	}
}

// eachByte tries what differs from a text at each of its bytes, and counts what is read.
func eachByte(t *testing.T, s string) int {
	t.Helper()
	read := 0
	for i := range s {
		here := s[i]
		others := []string{"", s[i:i+1] + s[i:i+1], "0" + s[i:i+1], " " + s[i:i+1], "," + s[i:i+1], string([]byte{here ^ 1}), string([]byte{here ^ 32}), string([]byte{here ^ 128})}
		for _, b := range append(others, strings.Split("\x00\n \"-/09Aafz:],}*\xff", "")...) {
			if other := s[:i] + b + s[i+1:]; keepsText(t, fmt.Sprintf("%q at %d", b, i), other) && other != s {
				read++
			}
		}
		refuses(t, "the first bytes", s[:i], api.ErrShort)
		keepsText(t, "the last bytes", s[i+1:])
	}
	return read
}

// P15.3: of the greatest texts too, at some of their bytes.
func TestOneByteOfGreatOnes(t *testing.T) {
	t.Parallel()
	for _, m := range full() {
		s := textOf(m, sigRow(16)...)
		for i := 0; i < len(s); i += 1 + len(s)/40 {
			for _, b := range []string{"", "0", "a", `"`, "\xff"} {
				keepsText(t, fmt.Sprintf("%q at %d", b, i), s[:i]+b+s[i+1:])
			}
		}
	}
}

// P15.3: two that are not the same have two texts.
func TestTwoTexts(t *testing.T) {
	t.Parallel()
	seen := map[string]string{}
	add := func(what string, m api.Meta, sigs ...api.Sig) {
		t.Helper()
		s, e := meta.Print(m, sigs...)
		if other, is := seen[s]; is || e != api.OK {
			t.Errorf("%s and %s: %.300q, %d", what, other, s, e)
		}
		seen[s] = what
	}
	for i, m := range ordinary() {
		for n := range 3 {
			add(fmt.Sprint("ordinary one ", i, " with ", n), m, sigRow(n)...)
		}
		add(fmt.Sprint("of another Expires ", i), with(m, func(m *api.Meta) { m.Expires ^= 1 << 10; m.Expires &= 1<<40 - 1 }))
		add(fmt.Sprint("of another Version ", i), with(m, func(m *api.Meta) { m.Version = m.Version/2 + 100 }))
	}
	for _, file := range []api.File{fileOf("a", 0), {Name: "a", Size: 2, Sum: summed("a")}, {Name: "a", Size: 1, Sum: summed("b")}, {Name: "b", Size: 1, Sum: summed("a")}} {
		add("a file", withFiles(targets(), file))
	}
	for i, d := range []api.Deleg{delegOf("a", true, "x"), delegOf("a", false, "x"), delegOf("b", true, "x"), delegOf("a", true, "x", "x"), delegOf("a", true, "y"), delegOf("a", true, "y", "x"), delegOf("a", true, "x", "y")} {
		add(fmt.Sprint("a deleg ", i), withDelegs(d))
		d.Role.Need = 2
		add(fmt.Sprint("a deleg of Need 2 ", i), withDelegs(d))
		d.Role = roleBy(1, keyRow(2)[1])
		add(fmt.Sprint("a deleg of another role ", i), withDelegs(d))
	}
	for i := range 4 {
		add("a root's role", with(root(), func(m *api.Meta) { m.Roles[i] = roleBy(1, keyRow(5)[4]) }))
	}
}

// roomy is a row with room behind its end, in which something stands.
func roomy[T any](row []T, room int, behind T) []T {
	return append(slices.Clone(row), slices.Repeat([]T{behind}, room)...)[:len(row)]
}

// withRoom is one with room behind each list.
func withRoom(m api.Meta, room int) api.Meta {
	return with(m, func(m *api.Meta) {
		m.Keys, m.Files = roomy(m.Keys, room, api.Key{Id: "behind"}), roomy(m.Files, room, api.File{Name: "behind"})
		m.Roles, m.Delegs = roomy(m.Roles, room, api.Role{Need: 99}), roomy(m.Delegs, room, api.Deleg{Name: "behind"})
		for i := range m.Roles {
			m.Roles[i].Ids = roomy(m.Roles[i].Ids, room, "behind")
		}
		for i := range m.Delegs {
			m.Delegs[i].Paths, m.Delegs[i].Role.Ids = roomy(m.Delegs[i].Paths, room, "behind"), roomy(m.Delegs[i].Role.Ids, room, "behind")
		}
	})
}

// all is what stands in the lists of one, and behind their ends.
func all(m api.Meta, sigs []api.Sig) string {
	var out strings.Builder
	fmt.Fprintf(&out, "%+v %+v %+v %+v %+v\n", m, m.Keys[:cap(m.Keys)], m.Files[:cap(m.Files)], m.Roles[:cap(m.Roles)], m.Delegs[:cap(m.Delegs)])
	for _, r := range m.Roles {
		fmt.Fprintf(&out, "%q\n", r.Ids[:cap(r.Ids)])
	}
	for _, d := range m.Delegs {
		fmt.Fprintf(&out, "%q %q\n", d.Paths[:cap(d.Paths)], d.Role.Ids[:cap(d.Role.Ids)])
	}
	fmt.Fprintf(&out, "%q", sigs[:cap(sigs)])
	return out.String()
}

// R4: no call changes a list that it was handed, nor what stands behind it.
func TestListsStay(t *testing.T) {
	t.Parallel()
	backward := with(root(), func(m *api.Meta) {
		slices.Reverse(m.Keys)
		slices.Reverse(m.Roles)
		slices.Reverse(m.Roles[0].Ids)
	})
	falling := with(targets(), func(m *api.Meta) {
		slices.Reverse(m.Files)
		slices.Reverse(m.Delegs)
	})
	for _, m := range append(ordinary(), backward, falling) {
		for _, room := range []int{0, 1, 5} {
			for _, n := range []int{0, 1, 16, 17} {
				m, sigs := withRoom(m, room), roomy(sigRow(n), room, api.Sig{Id: "behind"})
				slices.Reverse(sigs)
				was := all(m, sigs)
				meta.Right(m)
				_, _ = meta.Body(m)
				_, _ = meta.Print(m, sigs...)
				if now := all(m, sigs); now != was {
					t.Errorf("Kind %d, room for %d: %.500s, not %.500s", m.Kind, room, now, was)
				}
			}
		}
	}
}

// R4: what Parse answers is new memory, of which no two lists share any.
func TestParsedListsShareNothing(t *testing.T) {
	t.Parallel()
	for _, m := range ordinary() {
		s := textOf(m, sigRow(3)...)
		for i := range listsOf(m, sigRow(3)) {
			got, sigs, _ := meta.Parse(s)
			spoil(listsOf(got, sigs)[i])
			want, wantSigs := copied(m), sigRow(3)
			spoil(listsOf(want, wantSigs)[i])
			if !same(got, want) || !slices.Equal(sigs, wantSigs) {
				t.Errorf("Kind %d: list %d spoilt others: %+v", m.Kind, i, got)
			}
		}
	}
}

// listsOf are all lists of one.
func listsOf(m api.Meta, sigs []api.Sig) []any {
	out := []any{m.Keys, m.Files, sigs}
	for _, r := range m.Roles {
		out = append(out, r.Ids)
	}
	for _, d := range m.Delegs {
		out = append(out, d.Paths, d.Role.Ids)
	}
	return out
}

// spoil makes all of a list, and of what room is behind it, zero.
func spoil(list any) {
	v := reflect.ValueOf(list)
	v.Slice(0, v.Cap()).Clear()
}

// R1: no call keeps anything.
func TestNothingIsKept(t *testing.T) {
	t.Parallel()
	round := func() string {
		var out strings.Builder
		for _, m := range small() {
			body, e := meta.Body(m)
			s, f := meta.Print(m, sigRow(2)...)
			got, sigs, g := meta.Parse(s)
			fmt.Fprintf(&out, "%t %q %d %q %d %+v %q %d\n", meta.Right(m), body, e, s, f, got, sigs, g)
		}
		_, _, e := meta.Parse("{}")
		_, f := meta.Print(api.Meta{}, sigRow(17)...)
		fmt.Fprintf(&out, "%d %d %t %t %+v %d", e, f, meta.Name("a"), meta.Name("A"), meta.Refer("a", 1, "b"), meta.Fits(fileOf("a", 1), "a"))
		return out.String()
	}
	first := round()
	for _, m := range ordinary() {
		m.Version++
		_, _ = meta.Print(m, sigRow(1)...)
		_, _, _ = meta.Parse(textOf(m) + "x")
		_, _, _ = meta.Parse(textOf(m, sigRow(5)...))
		meta.Refer("x", 2, "y")
		if again := round(); again != first {
			t.Errorf("first %.300s, then %.300s", first, again)
		}
	}
}

// R1: calls side by side have nothing in common.
func TestCallsSideBySide(t *testing.T) {
	t.Parallel()
	for n := range 8 {
		t.Run(fmt.Sprint(n), func(t *testing.T) {
			t.Parallel()
			m := ordinary()[n]
			for range 20 {
				goesRound(t, m, sigRow(n)...)
			}
		})
	}
}

// drawn is metadata by a random source: most of what it has may be.
func drawn(from *rand.Rand) api.Meta {
	m := copied(append(slices.Repeat(append(small(), bare()...), 3), full()...)[from.Intn(28)])
	for range from.Intn(4) {
		odd(from, &m)
	}
	return m
}

// odd changes one thing, so that it may still be, or may not.
func odd(from *rand.Rand, m *api.Meta) {
	n := []int{0, 1, 2, 3, 5, 16, 17, 32, 33, million, million + 1, 65536, 65537, latest, latest + 1, -1}[from.Intn(16)]
	s := []string{"", "a", "b/c", "one", "targets", "snapshot", "x*", "..", summed("x"), summed("x")[:31], hexed(summed("x")), "\xff"}[from.Intn(12)]
	switch from.Intn(14) {
	case 0:
		m.Version = n
	case 1:
		m.Expires = n
	case 2:
		m.Kind = n % 6
	case 3:
		m.Keys = keyRow(max(n, 0) % 18)
	case 4:
		m.Log = s
	case 5:
		m.Delegs = append(m.Delegs, delegOf(s, n%2 == 0, "a", "b"))
	case 6:
		m.Files = append(m.Files, fileOf(s, n))
	case 7:
		m.Files = fileRow(max(n, 0)%34, 3+max(n, 0)%40, max(n, 0)%2)
	case 8:
		m.Roles = append(m.Roles, roleBy(1, keyRow(2)...))
	case 9:
		m.Roles = slices.Repeat([]api.Role{roleBy(1+max(n, 0)%4, keyRow(3)...)}, 4)
	}
	if at := len(m.Files); at > 0 && from.Intn(3) == 0 {
		f := &m.Files[from.Intn(at)]
		*f = []api.File{fileOf(s, f.Version), {Name: f.Name, Version: n, Size: f.Size, Sum: f.Sum}, {Name: f.Name, Version: f.Version, Size: n, Sum: f.Sum}, {Name: f.Name, Version: f.Version, Sum: s}}[from.Intn(4)]
	}
	if at := len(m.Delegs); at > 0 && from.Intn(3) == 0 {
		d := &m.Delegs[from.Intn(at)]
		*d = []api.Deleg{delegOf(s, d.Last, d.Paths...), {Name: d.Name, Role: d.Role, Paths: []string{s}}, {Name: d.Name, Role: api.Role{Ids: d.Role.Ids, Need: n}, Paths: d.Paths, Last: d.Last}, delegOf(d.Name, !d.Last, d.Paths[:1]...)}[from.Intn(4)]
	}
}

// P15.1, P15.3: metadata of all kinds, of which some may be and some may not.
func TestAnyMeta(t *testing.T) {
	t.Parallel()
	from := rand.New(rand.NewSource(15))
	met := [5][2]int{}
	for range 1000 {
		m := drawn(from)
		may := mayBe(m)
		holds(t, "any metadata", m, may)
		if m.Kind >= 1 && m.Kind <= 4 && may {
			met[m.Kind][1]++
		} else if m.Kind >= 1 && m.Kind <= 4 {
			met[m.Kind][0]++
		}
	}
	for kind, n := range met[1:] {
		if n[0] < 30 || n[1] < 30 {
			t.Errorf("Kind %d: %d that may not be, %d that may", kind+1, n[0], n[1])
		}
	}
}

// P1, P15.1 to P15.3: no call panics, whatever it is handed, and each answers what the chapter says.
func FuzzAnyBytes(f *testing.F) {
	for i, m := range append(small(), bare()...) {
		f.Add(textOf(m, sigRow(i%3)...), int64(i), i)
	}
	f.Add("", int64(-1), -1)
	f.Add("{}", int64(1)<<62, least)
	f.Add(`{"meta":{},"sigs":[]}`, int64(77), greatest)
	f.Fuzz(func(t *testing.T, s string, seed int64, n int) {
		keepsText(t, "any text", s)
		named(t, s, names.MatchString(s))
		file := meta.Refer(s, n, s)
		if file != (api.File{Name: s, Version: n, Size: len(s), Sum: summed(s)}) || meta.Fits(file, s) != api.OK {
			t.Errorf("Refer of %q: %+v", s, file)
		}
		file.Size = n
		if e := meta.Fits(file, s); (e == api.OK) != (n == len(s)) {
			t.Errorf("Fits of %d bytes, of Size %d: %d", len(s), n, e)
		}
		m := drawn(rand.New(rand.NewSource(seed)))
		holds(t, "any metadata", m, mayBe(m))
		for _, m := range []api.Meta{{Kind: n, Version: n, Expires: n, Log: s}, with(m, func(m *api.Meta) { m.Log = s }), withFiles(m, api.File{Name: s, Version: n, Size: n, Sum: s})} {
			holds(t, "any fields", m, mayBe(m))
		}
	})
}
