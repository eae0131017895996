package proof_test

import (
	"slices"
	"strings"
	"testing"

	"imprimatur/api"
	"imprimatur/proof"
	"imprimatur/tree"
)

// rooted is what tree tells of a row.
func rooted(t *testing.T, leaves []string) string {
	t.Helper()
	root, e := tree.Root(leaves)
	if e != api.OK {
		t.Fatalf("Root of %d leaves: %d", len(leaves), e)
	}
	return root
}

// shorter are rows with one sum less than another, longer ones with one more: the first one, one in the middle, the last one.
func shorter(sums []string) [][]string {
	var out [][]string
	for _, i := range spots(len(sums)) {
		out = append(out, slices.Delete(slices.Clone(sums), i, i+1))
	}
	return out
}

func longer(sums []string, more ...string) [][]string {
	var out [][]string
	for _, sum := range more {
		for _, i := range slices.Compact([]int{0, len(sums) / 2, len(sums)}) {
			out = append(out, slices.Insert(slices.Clone(sums), i, sum))
		}
	}
	return out
}

// P9.4: the path of each leaf of trees of 1 to 70 leaves holds, and holds at no other place; no shorter and no longer one does.
func TestPathsHold(t *testing.T) {
	all := row("a", 70)
	for n := 1; n <= 70; n++ {
		leaves := all[:n]
		root := rooted(t, leaves)
		for at := range n {
			path, e := proof.Path(leaves, at)
			if e != api.OK {
				t.Fatalf("Path of %d of %d: %d", at, n, e)
			}
			for place := -1; place <= n; place++ {
				want := api.ErrProof
				switch place {
				case at:
					want = api.OK
				case -1, n:
					want = api.ErrArg
				}
				if e := proof.Holds(leaves[at], place, n, path, root); e != want {
					t.Fatalf("the path of %d of %d at %d: %d, not %d", at, n, place, e, want)
				}
			}
			for _, other := range append(shorter(path), longer(path, root, leaves[at], all[0])...) {
				if e := proof.Holds(leaves[at], at, n, other, root); e != api.ErrProof {
					t.Fatalf("of %d of %d, %d sums for %d: %d", at, n, len(other), len(path), e)
				}
			}
			// Unlike leaves at one place of unlike trees are no clash, nor is a leaf of its own path.
			if one, other, e := proof.Clash(leaves[at], root, at, n, path, path); e != api.ErrNone || one != "" || other != "" {
				t.Fatalf("Clash at %d of %d: %x, %x, %d", at, n, one, other, e)
			}
		}
	}
}

// P9.4: the step from each number of first ones of trees of 0 to 70 leaves follows, to the root of all alone; no shorter and no longer one does.
func TestStepsFollow(t *testing.T) {
	all := row("a", 71)
	for n := range 71 {
		leaves := all[:n]
		root := rooted(t, leaves)
		for first := range n + 1 {
			step, e := proof.Step(leaves, first)
			if e != api.OK {
				t.Fatalf("Step from %d of %d: %d", first, n, e)
			}
			old := rooted(t, leaves[:first])
			if e := proof.Follows(first, n, old, root, step); e != api.OK {
				t.Fatalf("the step from %d of %d: %d", first, n, e)
			}
			for _, other := range append(shorter(step), longer(step, root, old, all[0])...) {
				if e := proof.Follows(first, n, old, root, other); e != api.ErrProof {
					t.Fatalf("from %d of %d, %d sums for %d: %d", first, n, len(other), len(step), e)
				}
			}
			if e := proof.Follows(first, n, rooted(t, all[:first+1]), root, step); e != api.ErrProof {
				t.Fatalf("the step from %d of %d, from the root of one more: %d", first, n, e)
			}
			if e := proof.Follows(first, n, old, rooted(t, all[:n+1]), step); first > 0 && e != api.ErrProof {
				t.Fatalf("the step from %d of %d, to the root of one more: %d", first, n, e)
			}
		}
	}
}

// P9.4: in great rows as well.
func TestGreatRowsHold(t *testing.T) {
	all := row("a", most)
	for _, n := range []int{127, 128, 129, 1000, 2047, 2048, 2049, most - 1, most} {
		leaves := all[:n]
		root := rooted(t, leaves)
		for _, i := range firsts(n) {
			if i >= 0 && i < n {
				path, e := proof.Path(leaves, i)
				if f := proof.Holds(leaves[i], i, n, path, root); e != api.OK || f != api.OK {
					t.Errorf("the path of %d of %d: %d, %d", i, n, e, f)
				}
			}
			if i >= 0 && i <= n {
				step, e := proof.Step(leaves, i)
				if f := proof.Follows(i, n, rooted(t, leaves[:i]), root, step); e != api.OK || f != api.OK {
					t.Errorf("the step from %d of %d: %d, %d", i, n, e, f)
				}
			}
		}
	}
}

// R4: no call changes a list that it was handed, nor what stands behind its length.
func TestListsStay(t *testing.T) {
	for n := range 34 {
		for _, room := range []int{0, 1, 3, 40} {
			leaves := copied(row("a", n), room)
			was := whole(leaves)
			for i := -1; i <= n+1; i++ {
				proof.Path(leaves, i)
				proof.Step(leaves, i)
			}
			if !slices.Equal(whole(leaves), was) {
				t.Fatalf("%d leaves, with room for %d, are others", n, room)
			}
			for i := range n {
				listsOfChecksStay(t, leaves, i, room)
			}
		}
	}
}

func listsOfChecksStay(t *testing.T, leaves []string, i, room int) {
	t.Helper()
	s, g := shownOf(leaves, i), goneOf(leaves, i)
	path, other, step := copied(s.path, room), copied(pathOf(row("b", s.size), i), room), copied(g.step, room)
	wasPath, wasOther, wasStep := whole(path), whole(other), whole(step)
	for size := range s.size + 3 {
		proof.Holds(s.leaf, i, size, path, s.root)
		proof.Holds(s.root, i, size, path, s.leaf)
		proof.Follows(i, size, g.old, g.root, step)
		proof.Follows(i, size, g.root, g.old, step)
		proof.Clash(s.leaf, s.root, i, size, path, other)
		proof.Clash(s.leaf, s.root, i, size, other, path)
		proof.Clash(s.leaf, s.leaf, i, size, path, path)
	}
	if !slices.Equal(whole(path), wasPath) || !slices.Equal(whole(other), wasOther) || !slices.Equal(whole(step), wasStep) {
		t.Fatalf("a list for %d of %d, with room for %d, is another one", i, s.size, room)
	}
}

// An answer is in new memory: who writes to it, or behind it, writes to no list that was handed in, nor to another answer.
func TestAnswersAreNew(t *testing.T) {
	for n := range 20 {
		leaves := copied(row("a", n), 5)
		was := whole(leaves)
		for i := range n {
			path, _ := proof.Path(leaves, i)
			again, _ := proof.Path(leaves, i)
			step, _ := proof.Step(leaves, i)
			stepAgain, _ := proof.Step(leaves, i)
			for _, list := range [][]string{path, step} {
				for j := range list {
					list[j] = "written"
				}
				_ = append(list, "written")
			}
			if !slices.Equal(whole(leaves), was) || !slices.Equal(again, pathOf(leaves, i)) || !slices.Equal(stepAgain, stepOf(leaves, i)) {
				t.Fatalf("the answers of %d of %d share memory", i, n)
			}
		}
	}
}

// R1: no call keeps anything.
func TestNothingIsKept(t *testing.T) {
	leaves := row("a", 77)
	round := func() []string {
		path, e := proof.Path(leaves, 40)
		step, f := proof.Step(leaves, 41)
		if e != api.OK || f != api.OK || shownOf(leaves, 40).holds() != api.OK || goneOf(leaves, 41).follows() != api.OK {
			t.Errorf("%d, %d", e, f)
		}
		return slices.Concat(path, step)
	}
	first := round()
	proof.Path(row("b", 100), 3)
	proof.Step(row("b", 100), 3)
	proof.Path(nil, -1)
	proof.Step(make([]string, 3), 5)
	proof.Holds("", 0, 0, nil, "")
	proof.Follows(-1, 5, "", "", first)
	proof.Clash(leaves[0], leaves[1], 0, 1, nil, nil)
	if again := round(); !slices.Equal(again, first) {
		t.Errorf("first %x, then %x", first, again)
	}
}

// cut are pieces of a text, of 32 bytes each, the last one of what is left.
func cut(s string) []string {
	var out []string
	for ; len(s) > 32; s = s[32:] {
		out = append(out, s[:32])
	}
	if s != "" {
		out = append(out, s)
	}
	return out
}

// P1, P9.1 to P9.4: no call panics, whatever it is handed, and each answers as the chapter says.
func FuzzAnyProof(f *testing.F) {
	leaves := row("a", 13)
	all := strings.Join(leaves, "")
	for at := range leaves {
		path, step := strings.Join(pathOf(leaves, at), ""), strings.Join(stepOf(leaves, at), "")
		f.Add(at, 13, leaves[at], rootOf(leaves), path, step, all)
		f.Add(at, 13, rootOf(leaves[:at]), rootOf(leaves), step, path, all)
	}
	f.Add(0, 0, summed(""), summed(""), "", "", "")
	f.Add(0, 1, leaves[0], leaves[0], "", "", leaves[0])
	f.Add(-1, least, "", "", "a", "", all[:33])
	f.Add(greatest, greatest, leaves[0], leaves[1], all, all, all[1:])
	f.Add(4096, 4097, leaves[0], leaves[1], all, all[:64], all[:31])
	f.Fuzz(func(t *testing.T, at, size int, one, other, firstText, secondText, rowText string) {
		first, second, leaves := cut(firstText), cut(secondText), cut(rowText)
		anyRow(t, leaves, at)
		for _, list := range [][]string{first, second} {
			if s := (shown{one, at, size, list, other}); s.holds() != s.want() {
				t.Fatalf("Holds at %d of %d: %d, not %d", at, size, s.holds(), s.want())
			}
			if g := (gone{at, size, one, other, list}); g.follows() != g.want() {
				t.Fatalf("Follows from %d of %d: %d, not %d", at, size, g.follows(), g.want())
			}
		}
		c := clash{one, other, at, size, first, second}
		c.answers(t, "any", c.want())
	})
}

// anyRow holds that Path and Step of any row answer as the chapter says.
func anyRow(t *testing.T, leaves []string, at int) {
	t.Helper()
	right := len(leaves) <= most && allSums(leaves) && at >= 0
	path, e := proof.Path(leaves, at)
	if right && at < len(leaves) {
		isRow(t, "Path", path, e, pathOf(leaves, at))
	} else {
		isRefused(t, "Path", path, e)
	}
	step, e := proof.Step(leaves, at)
	if right && at <= len(leaves) {
		isRow(t, "Step", step, e, stepOf(leaves, at))
	} else {
		isRefused(t, "Step", step, e)
	}
}
