package proof_test

import (
	"fmt"
	"slices"
	"testing"

	"imprimatur/api"
	"imprimatur/proof"
)

// answers holds that Clash answers an error that is told here, which the chapter's words tell as well, with nothing beside.
func (c clash) answers(t *testing.T, what string, want api.Errno) {
	t.Helper()
	one, other, e := proof.Clash(c.a, c.b, c.at, c.size, c.first, c.second)
	if e != want || one != "" || other != "" {
		t.Errorf("%s, at %d of %d: %x, %x, %d, not %d", what, c.at, c.size, one, other, e, want)
	}
	if c.want() != want {
		t.Fatalf("%s, at %d of %d: the chapter tells %d, not %d", what, c.at, c.size, c.want(), want)
	}
}

// clashOf is what shows the leaves at a place of two rows of as many.
func clashOf(leaves, others []string, at int) clash {
	return clash{leaves[at], others[at], at, len(leaves), pathOf(leaves, at), pathOf(others, at)}
}

// P9.3: a place that is none of so many, or too many, are refused, whatever the leaves and the paths are.
func TestClashAtNoPlace(t *testing.T) {
	leaves, others := row("a", 8), row("b", 8)
	for _, place := range sizesAndPlaces() {
		for _, c := range []clash{
			clashOf(leaves, others, 5),
			clashOf(leaves, leaves, 5),
			clashOf(leaves[:1], others[:1], 0),
			{a: leaves[0], b: leaves[0]},
			{leaves[0], others[0], 0, 0, leaves[:2], others[:5]},
		} {
			c.at, c.size = place[0], place[1]
			c.answers(t, "no place", api.ErrArg)
		}
	}
}

// P9.3: a path in 4097 leaves is refused, in 4096 it is not.
func TestClashOfTheMost(t *testing.T) {
	all, others := row("a", most+1), row("b", most+1)
	for _, at := range []int{0, 2048, most - 1} {
		clashOf(all[:most], others[:most], at).answers(t, "of 4096", api.ErrNone)
		clashOf(all, others, at).answers(t, "of 4097", api.ErrArg)
		clashOf(all[:most], all[:most], at).answers(t, "the same, of 4096", api.ErrNone)
		clashOf(all, all, at).answers(t, "the same, of 4097", api.ErrArg)
	}
}

// P9.3: a text that has not 32 bytes, as one of both leaves or of a path, alone and together with what would be ErrNone.
func TestClashOfOtherLengths(t *testing.T) {
	for _, n := range []int{1, 2, 3, 8, 65} {
		leaves, others := row("a", n), row("b", n)
		for _, at := range spots(n) {
			unlike := clashOf(leaves, others, at)
			same := clashOf(leaves, leaves, at)
			longer := unlike
			longer.first = append(slices.Clone(unlike.first), leaves[0])
			longer.second = append(slices.Clone(unlike.second), leaves[0])
			for i, was := range []clash{unlike, same, longer} {
				was.answers(t, "as it is", api.ErrNone)
				what := fmt.Sprintf("variety %d", i)
				for _, bad := range badSums(leaves[at]) {
					c := was
					c.a = bad
					c.answers(t, what+", a", api.ErrArg)
					c.b = bad
					c.answers(t, what+", both, alike", api.ErrArg)
					c = was
					c.b = bad
					c.answers(t, what+", b", api.ErrArg)
					for _, spot := range spots(len(was.first)) {
						c = was
						c.first = changed(was.first, spot, bad)
						c.answers(t, what+", one of the first path", api.ErrArg)
						c.second = c.first
						c.answers(t, what+", one of both paths", api.ErrArg)
						c = was
						c.second = changed(was.second, spot, bad)
						c.answers(t, what+", one of the second path", api.ErrArg)
					}
				}
			}
		}
	}
}

// P9.3: where both leaves are the same there is nothing to find, with the same path, with another one, and with none.
func TestClashOfTheSame(t *testing.T) {
	for _, n := range []int{1, 2, 3, 5, 8, 65} {
		leaves, others := row("a", n), row("b", n)
		for _, at := range spots(n) {
			same := clashOf(leaves, leaves, at)
			same.answers(t, "the same path", api.ErrNone)
			c := same
			c.second = pathOf(others, at)
			c.answers(t, "another path", api.ErrNone)
			c.first = nil
			c.answers(t, "none and another path", api.ErrNone)
			c.second = nil
			c.answers(t, "no paths", api.ErrNone)
			c.first, c.second = others, others
			c.answers(t, "a path that makes nothing, twice", api.ErrNone)
		}
	}
}

// P9.3: of one leaf there are no nodes: unlike ones make unlike roots.
func TestClashOfOne(t *testing.T) {
	a, b := row("a", 1)[0], row("b", 1)[0]
	for _, none := range [][]string{nil, {}} {
		clash{a, b, 0, 1, none, none}.answers(t, "unlike", api.ErrNone)
		clash{a, turned(a, 255), 0, 1, none, none}.answers(t, "unlike by a bit", api.ErrNone)
		clash{a, a, 0, 1, none, none}.answers(t, "the same", api.ErrNone)
		clash{a, b, 0, 1, []string{b}, none}.answers(t, "a path for a", api.ErrNone)
		clash{a, b, 0, 1, none, []string{a}}.answers(t, "a path for b", api.ErrNone)
		clash{a, b, 0, 1, []string{b}, []string{a}}.answers(t, "a path for both", api.ErrNone)
	}
}

// P9.3: a path that makes nothing, for a, for b, for both, also where both are of one wrong length.
func TestClashOfNothing(t *testing.T) {
	for _, n := range []int{2, 3, 4, 5, 8, 9, 64, 65, most} {
		leaves, others := row("a", n), row("b", n)
		for _, at := range spots(n) {
			c := clashOf(leaves, others, at)
			shorts := [][]string{nil, c.first[1:], c.first[:len(c.first)-1], append(slices.Clone(c.first), leaves[0]), leaves, row("c", most+1)}
			for _, wrong := range shorts {
				if len(wrong) == len(c.first) {
					continue
				}
				one := c
				one.first = wrong
				one.answers(t, "for a", api.ErrNone)
				one.second = wrong
				one.answers(t, "for both", api.ErrNone)
				one = c
				one.second = wrong
				one.answers(t, "for b", api.ErrNone)
			}
		}
	}
}

// P9.3: two that make unlike roots, by unlike paths or by one path.
func TestClashOfUnlikeRoots(t *testing.T) {
	for _, n := range []int{2, 3, 4, 5, 8, 9, 64, 65} {
		leaves, others := row("a", n), row("b", n)
		for at := range n {
			c := clashOf(leaves, others, at)
			c.answers(t, "unlike paths", api.ErrNone)
			c.second = c.first
			c.answers(t, "one path", api.ErrNone)
			c.b = turned(c.a, 0)
			c.answers(t, "leaves unlike by a bit", api.ErrNone)
			c = clashOf(leaves, leaves, at)
			c.b = others[at]
			c.answers(t, "one row", api.ErrNone)
		}
	}
	// Both halves of one node are no clash, as each makes it from its own place alone.
	two := row("a", 2)
	a, b := two[0], two[1]
	clash{a, b, 0, 2, []string{b}, []string{a}}.answers(t, "both halves", api.ErrNone)
	clash{a, b, 1, 2, []string{b}, []string{a}}.answers(t, "both halves", api.ErrNone)
}
