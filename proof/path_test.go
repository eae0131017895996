package proof_test

import (
	"slices"
	"testing"

	"imprimatur/api"
	"imprimatur/proof"
	"imprimatur/tree"
)

// knownLeaves are those of the known trees of Certificate Transparency's logs.
func knownLeaves(t *testing.T) []string {
	t.Helper()
	var leaves []string
	for _, data := range []string{"", "00", "10", "2021", "3031", "40414243", "5051525354555657", "606162636465666768696a6b6c6d6e6f"} {
		leaves = append(leaves, tree.Leaf(unhex(t, data)))
	}
	return leaves
}

// isRow holds that a call answers a row of sums, without an error.
func isRow(t *testing.T, what string, got []string, e api.Errno, want []string) {
	t.Helper()
	if e != api.OK || !slices.Equal(got, want) {
		t.Errorf("%s: %x, %d, not %x", what, got, e, want)
	}
}

// isRefused holds that a call answers ErrArg, with nothing beside.
func isRefused(t *testing.T, what string, got []string, e api.Errno) {
	t.Helper()
	if e != api.ErrArg || got != nil {
		t.Errorf("%s: %x, %d, not ErrArg", what, got, e)
	}
}

// P9.1: the chapter's examples.
func TestExamples(t *testing.T) {
	a, b, c := tree.Leaf("a"), tree.Leaf("b"), tree.Leaf("c")
	leaves := []string{a, b, c}
	got, e := proof.Path(leaves, 2)
	isRow(t, "Path of 2", got, e, []string{tree.Node(a, b)})
	got, e = proof.Step(leaves, 2)
	isRow(t, "Step from 2", got, e, []string{c})
}

// P9.1: the paths and steps of RFC 6962's tree of seven leaves (2.1.3).
func TestTreeOfSeven(t *testing.T) {
	leaves := row("seven", 7)
	a, b, c, d, e, f, j := leaves[0], leaves[1], leaves[2], leaves[3], leaves[4], leaves[5], leaves[6]
	node := tree.Node
	g, h, i := node(a, b), node(c, d), node(e, f)
	k, l := node(g, h), node(i, j)
	for at, want := range [][]string{{b, h, l}, {a, h, l}, {d, g, l}, {c, g, l}, {f, j, k}, {e, j, k}, {i, k}} {
		got, err := proof.Path(leaves, at)
		isRow(t, "Path", got, err, want)
		if err := proof.Holds(leaves[at], at, 7, want, node(k, l)); err != api.OK {
			t.Errorf("the path of %d does not hold: %d", at, err)
		}
	}
	olds := []string{summed(""), a, g, node(g, c), k, node(k, e), node(k, i), node(k, l)}
	for first, want := range [][]string{nil, {b, h, l}, {h, l}, {c, d, g, l}, {l}, {e, f, j, k}, {i, j, k}, nil} {
		got, err := proof.Step(leaves, first)
		isRow(t, "Step", got, err, want)
		if err := proof.Follows(first, 7, olds[first], node(k, l), want); err != api.OK {
			t.Errorf("the step from %d does not lead on: %d", first, err)
		}
	}
}

// P9.1: paths of the known trees.
func TestKnownPaths(t *testing.T) {
	leaves := knownLeaves(t)
	for _, c := range []struct {
		at, size int
		path     []string
	}{
		{0, 1, nil},
		{0, 8, []string{
			"96a296d224f285c67bee93c30f8a309157f0daa35dc5b87e410b78630a09cfc7",
			"5f083f0a1a33ca076a95279832580db3e0ef4584bdff1f54c8a360f50de3031e",
			"6b47aaf29ee3c2af9af889bc1fb9254dabd31177f16232dd6aab035ca39bf6e4",
		}},
		{5, 8, []string{
			"bc1a0643b12e4d2d7c77918f44e0f4f79a838b6cf9ec5b5c283e1f4d88599e6b",
			"ca854ea128ed050b41b35ffc1b87b8eb2bde461e9e3b5596ece6b9d5975a0ae0",
			"d37ee418976dd95753c1c73862b9398fa2a2cf9b4ff0fdfe8b30cd95209614b7",
		}},
		{2, 3, []string{"fac54203e7cc696cf0dfcb42c92a1d9dbaf70ad9e621f4bd8d98662f00e3c125"}},
		{1, 5, []string{
			"6e340b9cffb37a989ca544e6bb780a2c78901d3fb33738768511a30617afa01d",
			"5f083f0a1a33ca076a95279832580db3e0ef4584bdff1f54c8a360f50de3031e",
			"bc1a0643b12e4d2d7c77918f44e0f4f79a838b6cf9ec5b5c283e1f4d88599e6b",
		}},
	} {
		var want []string
		for _, sum := range c.path {
			want = append(want, unhex(t, sum))
		}
		got, e := proof.Path(leaves[:c.size], c.at)
		isRow(t, "a known path", got, e, want)
	}
}

// P9.1: steps of the known trees.
func TestKnownSteps(t *testing.T) {
	leaves := knownLeaves(t)
	for _, c := range []struct {
		first, size int
		step        []string
	}{
		{1, 1, nil},
		{1, 8, []string{
			"96a296d224f285c67bee93c30f8a309157f0daa35dc5b87e410b78630a09cfc7",
			"5f083f0a1a33ca076a95279832580db3e0ef4584bdff1f54c8a360f50de3031e",
			"6b47aaf29ee3c2af9af889bc1fb9254dabd31177f16232dd6aab035ca39bf6e4",
		}},
		{6, 8, []string{
			"0ebc5d3437fbe2db158b9f126a1d118e308181031d0a949f8dededebc558ef6a",
			"ca854ea128ed050b41b35ffc1b87b8eb2bde461e9e3b5596ece6b9d5975a0ae0",
			"d37ee418976dd95753c1c73862b9398fa2a2cf9b4ff0fdfe8b30cd95209614b7",
		}},
		{2, 5, []string{
			"5f083f0a1a33ca076a95279832580db3e0ef4584bdff1f54c8a360f50de3031e",
			"bc1a0643b12e4d2d7c77918f44e0f4f79a838b6cf9ec5b5c283e1f4d88599e6b",
		}},
	} {
		var want []string
		for _, sum := range c.step {
			want = append(want, unhex(t, sum))
		}
		got, e := proof.Step(leaves[:c.size], c.first)
		isRow(t, "a known step", got, e, want)
	}
}

// P9.1: the path of each leaf, and the step from each number of first ones, of all rows of 0 to 70, against two reckonings.
func TestSmallRows(t *testing.T) {
	all := row("a", 70)
	for n := range 71 {
		leaves := all[:n]
		for at := range n {
			got, e := proof.Path(leaves, at)
			isRow(t, "Path, from the root down", got, e, pathOf(leaves, at))
			isRow(t, "Path, from the leaf up", got, e, pathUp(leaves, at))
		}
		for first := range n + 1 {
			got, e := proof.Step(leaves, first)
			isRow(t, "Step, from the root down", got, e, stepOf(leaves, first))
			isRow(t, "Step, from the leaf up", got, e, stepUp(leaves, first))
		}
	}
}

// P9.1: at each edge of rows up to the greatest ones.
func TestEdgesOfRows(t *testing.T) {
	all := row("a", most)
	for _, n := range counts() {
		leaves := all[:n]
		for _, i := range firsts(n) {
			got, e := proof.Path(leaves, i)
			if i < 0 || i >= n {
				isRefused(t, "Path of no place", got, e)
			} else {
				isRow(t, "Path", got, e, pathUp(leaves, i))
			}
			got, e = proof.Step(leaves, i)
			if i < 0 || i > n {
				isRefused(t, "Step from no number", got, e)
			} else {
				isRow(t, "Step", got, e, stepUp(leaves, i))
			}
		}
	}
}

// P9.1, R3: a nil row is an empty one; it has no place, and a step from none, which is none.
func TestNoLeaves(t *testing.T) {
	for _, leaves := range [][]string{nil, {}, copied(nil, 5)} {
		for _, i := range []int{least, -1, 0, 1, greatest} {
			got, e := proof.Path(leaves, i)
			isRefused(t, "Path in no leaves", got, e)
			got, e = proof.Step(leaves, i)
			if i == 0 {
				isRow(t, "Step from none to none", got, e, nil)
			} else {
				isRefused(t, "Step in no leaves", got, e)
			}
		}
	}
}

// P9.1: a row of more than 4096 sums is refused, at each place and from each number.
func TestTooManyLeaves(t *testing.T) {
	all := row("a", most+100)
	for _, n := range []int{most + 1, most + 2, most + 100} {
		for _, i := range []int{least, -1, 0, 1, 2, most - 1, most, most + 1, n, n + 1, greatest} {
			got, e := proof.Path(all[:n], i)
			isRefused(t, "Path in too many", got, e)
			got, e = proof.Step(all[:n], i)
			isRefused(t, "Step in too many", got, e)
		}
	}
}

// P9.1: a row with a sum of another length than 32 bytes, wherever it stands, is refused, also where that sum would not be asked.
func TestLeavesOfOtherLengths(t *testing.T) {
	for _, n := range []int{1, 2, 3, 4, 5, 7, 8, 9, 63, 64, 65, most - 1, most} {
		leaves := row("a", n)
		for _, at := range spots(n) {
			for _, length := range badLengths() {
				bad := spoiled(leaves, at, length)
				for _, i := range []int{-1, 0, 1, at, at + 1, n / 2, n - 1, n, n + 1} {
					got, e := proof.Path(bad, i)
					isRefused(t, "Path in a row that may not be", got, e)
					got, e = proof.Step(bad, i)
					isRefused(t, "Step in a row that may not be", got, e)
				}
			}
		}
	}
}

// P9.1: leaves' sums of all kinds of bytes, and alike ones, are no others.
func TestLeavesThatAreAlike(t *testing.T) {
	for _, b := range []byte{0, 1, 255} {
		sum := string(slices.Repeat([]byte{b}, 32))
		for n := range 20 {
			leaves := slices.Repeat([]string{sum}, n)
			for at := range n {
				got, e := proof.Path(leaves, at)
				isRow(t, "Path", got, e, pathOf(leaves, at))
				if e := proof.Holds(sum, at, n, got, rootOf(leaves)); e != api.OK {
					t.Errorf("the path of %d of %d alike does not hold: %d", at, n, e)
				}
			}
			for first := range n + 1 {
				got, e := proof.Step(leaves, first)
				isRow(t, "Step", got, e, stepOf(leaves, first))
				if e := proof.Follows(first, n, rootOf(leaves[:first]), rootOf(leaves), got); e != api.OK {
					t.Errorf("the step from %d of %d alike does not lead on: %d", first, n, e)
				}
			}
		}
	}
}
