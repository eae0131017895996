package proof_test

import (
	"fmt"
	"slices"
	"testing"

	"imprimatur/api"
	"imprimatur/proof"
)

func (g gone) follows() api.Errno {
	return proof.Follows(g.first, g.size, g.old, g.root, g.step)
}

// answers holds that Follows answers what is told here, which the chapter's words and, where they are asked, RFC 9162's steps tell as well.
func (g gone) answers(t *testing.T, what string, want api.Errno) {
	t.Helper()
	if got := g.follows(); got != want {
		t.Errorf("%s, from %d of %d, a step of %d: %d, not %d", what, g.first, g.size, len(g.step), got, want)
	}
	if g.want() != want || want != api.ErrArg && g.first > 0 && g.first < g.size && g.climbs() != (want == api.OK) {
		t.Fatalf("%s, from %d of %d: the reckonings tell %d, not %d", what, g.first, g.size, g.want(), want)
	}
}

// P9.2: from none there is no step, and the old root is the sum of nothing; the new one is not looked at.
func TestFollowsFromNone(t *testing.T) {
	a, nothing := row("a", 1)[0], summed("")
	for _, size := range []int{0, 1, 2, 3, 8, most} {
		for _, root := range []string{a, nothing, string(make([]byte, 32))} {
			for _, none := range [][]string{nil, {}} {
				gone{0, size, nothing, root, none}.answers(t, "from none", api.OK)
				gone{0, size, a, root, none}.answers(t, "another old root", api.ErrProof)
				gone{0, size, turned(nothing, 255), root, none}.answers(t, "a bit of the old root turned", api.ErrProof)
			}
			for _, step := range [][]string{{a}, {nothing}, {root}, {root, a}} {
				gone{0, size, nothing, root, step}.answers(t, "a step", api.ErrProof)
				gone{0, size, a, root, step}.answers(t, "a step and another old root", api.ErrProof)
			}
		}
	}
}

// P9.2: from all there is no step, and both roots are the same.
func TestFollowsFromAll(t *testing.T) {
	a, b := row("a", 1)[0], row("b", 1)[0]
	for _, n := range []int{1, 2, 3, 4, 5, 7, 8, 9, most - 1, most} {
		for _, none := range [][]string{nil, {}} {
			gone{n, n, a, a, none}.answers(t, "both alike", api.OK)
			gone{n, n, a, b, none}.answers(t, "unlike ones", api.ErrProof)
			gone{n, n, a, turned(a, 0), none}.answers(t, "a bit turned", api.ErrProof)
		}
		for _, step := range [][]string{{a}, {b}, {a, a}, {a, b}, {b, a}} {
			gone{n, n, a, a, step}.answers(t, "a step", api.ErrProof)
			gone{n, n, a, b, step}.answers(t, "a step and unlike ones", api.ErrProof)
			gone{n, n, a, nodeOf(a, step[0]), step}.answers(t, "a step to the node", api.ErrProof)
		}
	}
}

// P9.2: steps of trees of two to six leaves, told by hand: from a power of 2 they begin with the rest, from another number with a sum of the first ones.
func TestFollowsOfFew(t *testing.T) {
	leaves := row("a", 6)
	a, b, c, d, x, y := leaves[0], leaves[1], leaves[2], leaves[3], leaves[4], leaves[5]
	ab, cd, xy := nodeOf(a, b), nodeOf(c, d), nodeOf(x, y)
	abc, abcd := nodeOf(ab, c), nodeOf(ab, cd)
	all := nodeOf(abcd, xy)
	gone{1, 2, a, ab, []string{b}}.answers(t, "1 of 2", api.OK)
	gone{1, 3, a, abc, []string{b, c}}.answers(t, "1 of 3", api.OK)
	gone{2, 3, ab, abc, []string{c}}.answers(t, "2 of 3", api.OK)
	gone{2, 3, ab, abc, []string{ab, c}}.answers(t, "2 of 3, with the old root", api.ErrProof)
	gone{3, 4, abc, abcd, []string{c, d, ab}}.answers(t, "3 of 4", api.OK)
	gone{3, 4, abc, abcd, []string{d, ab}}.answers(t, "3 of 4, without a sum of the first ones", api.ErrProof)
	gone{2, 4, ab, abcd, []string{cd}}.answers(t, "2 of 4", api.OK)
	gone{1, 6, a, all, []string{b, cd, xy}}.answers(t, "1 of 6", api.OK)
	gone{2, 6, ab, all, []string{cd, xy}}.answers(t, "2 of 6", api.OK)
	gone{3, 6, abc, all, []string{c, d, ab, xy}}.answers(t, "3 of 6", api.OK)
	gone{4, 6, abcd, all, []string{xy}}.answers(t, "4 of 6", api.OK)
	gone{5, 6, nodeOf(abcd, x), all, []string{x, y, abcd}}.answers(t, "5 of 6", api.OK)
	gone{5, 6, nodeOf(abcd, x), all, []string{y, x, abcd}}.answers(t, "5 of 6, two sums exchanged", api.ErrProof)
}

// P9.2: a first number that is not 0 to size, or a size above 4096, is refused, with a step that would lead on or not.
func TestFollowsFromNoNumber(t *testing.T) {
	was := goneOf(row("a", 8), 5)
	none := gone{0, 0, summed(""), summed(""), nil}
	refused := func(first, size int) {
		t.Helper()
		for _, g := range []gone{was, none, {5, 8, was.old, was.root, was.step[1:]}, {5, 8, was.root, was.old, was.step}} {
			g.first, g.size = first, size
			g.answers(t, "no number", api.ErrArg)
		}
	}
	for _, size := range []int{0, 1, 2, 3, 8, most - 1, most} {
		for _, first := range []int{least, -size - 1, -1, size + 1, size + 2, 1 << 32, greatest - 1, greatest} {
			refused(first, size)
		}
	}
	for _, size := range []int{most + 1, most + 2, 2 * most, 1 << 32, 1 << 62, greatest - 1, greatest} {
		for _, first := range []int{least, -1, 0, 1, 2, 3, most, most + 1, size - 1, size} {
			refused(first, size)
		}
	}
	for _, size := range []int{least, least + 1, -most, -1} {
		for _, first := range []int{least, least + 1, size - 1, size, size + 1, -1, 0, 1, greatest} {
			refused(first, size)
		}
	}
}

// P9.2: to 4096 leaves a step leads, to 4097 it is refused, though it would lead to the root.
func TestFollowsToTheMost(t *testing.T) {
	all := row("a", most+1)
	for _, first := range []int{0, 1, 2, 3, 2047, 2048, 2049, most - 1, most} {
		goneOf(all[:most], first).answers(t, "to 4096", api.OK)
		g := goneOf(all, first)
		if first > 0 && !g.climbs() {
			t.Fatalf("the step from %d to 4097 does not lead up", first)
		}
		g.answers(t, "to 4097", api.ErrArg)
	}
}

// P9.2: a text that has not 32 bytes, as old root, new root or one of the step, alone and together with what would be ErrProof.
func TestFollowsOfOtherLengths(t *testing.T) {
	for _, c := range [][2]int{{0, 0}, {0, 1}, {0, 8}, {1, 1}, {1, 2}, {2, 3}, {3, 4}, {4, 8}, {5, 8}, {8, 8}, {64, 65}, {63, 65}, {2048, most}, {most - 1, most}, {most, most}} {
		right := goneOf(row("a", c[1]), c[0])
		wrong := right
		wrong.old = row("b", 1)[0]
		longer := right
		longer.step = append(slices.Clone(right.step), right.root)
		for i, g := range []gone{right, wrong, longer} {
			what := fmt.Sprintf("variety %d", i)
			for _, bad := range badSums(right.root) {
				one := g
				one.old = bad
				one.answers(t, what+", old", api.ErrArg)
				one = g
				one.root = bad
				one.answers(t, what+", root", api.ErrArg)
				one.old = bad
				one.answers(t, what+", both", api.ErrArg)
				for _, spot := range spots(len(g.step)) {
					one = g
					one.step = changed(g.step, spot, bad)
					one.answers(t, what+", one of the step", api.ErrArg)
				}
			}
		}
	}
}

// P9.2: steps of too many sums, however many, show nothing, but are no wrong argument, as long as each has 32 bytes.
func TestFollowsOfLongSteps(t *testing.T) {
	all := row("a", most+2)
	for _, c := range [][2]int{{0, 0}, {0, 8}, {1, 2}, {3, 8}, {4, 8}, {8, 8}, {most - 1, most}} {
		g := goneOf(all[:c[1]], c[0])
		for _, n := range []int{14, 64, 65, most, most + 1, most + 2} {
			g.step = all[:n]
			g.answers(t, "a long step", api.ErrProof)
			g.step = spoiled(all[:n], n-1, 33)
			g.answers(t, "a long step, the last sum of 33 bytes", api.ErrArg)
		}
	}
}

// goneWrong are varieties of what leads on, from some but not all of distinct leaves, that do not.
func goneWrong(g gone) map[string]gone {
	out := map[string]gone{}
	with := func(what string, step ...string) {
		other := g
		other.step = step
		out[what] = other
	}
	for _, bit := range []int{0, 7, 100, 255} {
		for i := range g.step {
			with(fmt.Sprintf("bit %d of sum %d turned", bit, i), changed(g.step, i, turned(g.step[i], bit))...)
		}
		other := g
		other.old = turned(g.old, bit)
		out[fmt.Sprintf("bit %d of the old root turned", bit)] = other
		other = g
		other.root = turned(g.root, bit)
		out[fmt.Sprintf("bit %d of the new root turned", bit)] = other
	}
	for i := range g.step {
		with(fmt.Sprintf("without sum %d", i), slices.Delete(slices.Clone(g.step), i, i+1)...)
		with(fmt.Sprintf("sum %d twice", i), slices.Insert(slices.Clone(g.step), i, g.step[i])...)
		for j := range i {
			both := changed(g.step, i, g.step[j])
			both[j] = g.step[i]
			with(fmt.Sprintf("sums %d and %d exchanged", j, i), both...)
		}
	}
	for _, more := range []string{g.old, g.root, string(make([]byte, 32))} {
		with("longer behind by "+more, append(slices.Clone(g.step), more)...)
		with("longer ahead by "+more, append([]string{more}, g.step...)...)
	}
	with("none")
	out["both roots exchanged"] = gone{g.first, g.size, g.root, g.old, g.step}
	out["the old root twice"] = gone{g.first, g.size, g.old, g.old, g.step}
	out["the new root twice"] = gone{g.first, g.size, g.root, g.root, g.step}
	return out
}

// P9.2: what is not the step, the old root or the new one is ErrProof; an old root that is right does not make up for a new one that is not, nor the other way round.
func TestFollowsNot(t *testing.T) {
	for _, n := range []int{2, 3, 4, 5, 7, 8, 9, 13, 63, 64, 65} {
		leaves := row("a", n)
		for first := 1; first < n; first++ {
			g := goneOf(leaves, first)
			g.answers(t, "as it is", api.OK)
			for what, other := range goneWrong(g) {
				other.answers(t, what, api.ErrProof)
			}
		}
	}
}

// P9.2: a step with another sum in it makes other roots, as the chapter's words tell: both, or the new one alone. It leads on to all that it makes, and not where one of both roots is another one.
func TestFollowsOneRootAlone(t *testing.T) {
	for _, c := range []struct{ first, size, news, boths int }{
		{2, 4, 1, 0}, {4, 7, 1, 0}, {3, 4, 1, 2}, {3, 7, 2, 2}, {5, 8, 2, 2}, {6, 8, 1, 2}, {7, 8, 1, 3}, {11, 13, 2, 3},
	} {
		right := goneOf(row("a", c.size), c.first)
		news, boths := 0, 0
		for i := range right.step {
			g := right
			g.step = changed(right.step, i, row("b", 1)[0])
			was, is, _ := stepMakes(g.old, g.first, g.size, true, g.step)
			g.answers(t, "both roots as they were", api.ErrProof)
			g.old, g.root = was, is
			g.answers(t, "both roots that come out", api.OK)
			g.root = right.root
			g.answers(t, "the old root that comes out, the new one as it was", api.ErrProof)
			if was == right.old {
				news++
				continue
			}
			g.old, g.root = right.old, is
			g.answers(t, "the new root that comes out, the old one as it was", api.ErrProof)
			boths++
		}
		if news != c.news || boths != c.boths {
			t.Errorf("%d of %d: %d sums make the new root alone, %d both", c.first, c.size, news, boths)
		}
	}
}

// P9.2: another first number or another size, against the chapter's words: in most of them nothing follows.
func TestFollowsElsewhere(t *testing.T) {
	leaves := row("a", 17)
	for n := range 18 {
		for first := range n + 1 {
			g := goneOf(leaves[:n], first)
			for g.first = 0; g.first < 20; g.first++ {
				for g.size = 0; g.size < 20; g.size++ {
					g.answers(t, fmt.Sprintf("what leads from %d to %d", first, n), g.want())
				}
			}
		}
	}
	for _, c := range []struct {
		first, size, otherFirst, otherSize int
		want                               api.Errno
	}{
		{2, 3, 1, 3, api.ErrProof}, {2, 3, 2, 4, api.OK}, {2, 4, 2, 3, api.OK}, {4, 8, 4, 7, api.OK}, {2, 4, 2, 5, api.ErrProof},
		{3, 4, 3, 5, api.ErrProof}, {3, 4, 2, 4, api.ErrProof}, {3, 4, 3, 8, api.ErrProof}, {5, 8, 5, 7, api.OK}, {5, 8, 6, 8, api.ErrProof},
		{6, 8, 6, 7, api.OK}, {6, 8, 7, 8, api.ErrProof}, {6, 8, 5, 8, api.ErrProof}, {8, 9, 8, 10, api.OK}, {8, 9, 9, 9, api.ErrProof},
	} {
		g := goneOf(leaves[:c.size], c.first)
		g.first, g.size = c.otherFirst, c.otherSize
		g.answers(t, fmt.Sprintf("what leads from %d to %d", c.first, c.size), c.want)
	}
}

// P9.2: each number of first ones at the edges of great rows.
func TestFollowsOfGreatRows(t *testing.T) {
	all := row("a", most)
	for _, n := range []int{1000, 2047, 2048, 2049, most - 1, most} {
		for _, first := range firsts(n) {
			if first >= 0 && first <= n {
				goneOf(all[:n], first).answers(t, "a great row", api.OK)
			}
		}
	}
}
