package tree_test

import (
	"slices"
	"strings"
	"testing"

	"imprimatur/api"
	"imprimatur/tree"
)

// knownData are the leaves' data of the known trees of Certificate Transparency's logs, and knownRoots the roots of 0 to 8 of them.
func knownData() []string {
	return []string{"", "00", "10", "2021", "3031", "40414243", "5051525354555657", "606162636465666768696a6b6c6d6e6f"}
}

func knownRoots() []string {
	return []string{
		"e3b0c44298fc1c149afbf4c8996fb92427ae41e4649b934ca495991b7852b855",
		"6e340b9cffb37a989ca544e6bb780a2c78901d3fb33738768511a30617afa01d",
		"fac54203e7cc696cf0dfcb42c92a1d9dbaf70ad9e621f4bd8d98662f00e3c125",
		"aeb6bcfe274b70a14fb067a5e5578264db0fa9b51af5e0ba159158f329e06e77",
		"d37ee418976dd95753c1c73862b9398fa2a2cf9b4ff0fdfe8b30cd95209614b7",
		"4e3bbb1f7b478dcfe71fb631631519a3bca12c9aefca1612bfce4c13a86264d4",
		"76e67dadbcdf1e10e1b74ddc608abd2f98dfb16fbce75277b5232a127f2087ef",
		"ddb89be403809e325750d3d263cd78929c2942b7942a34b77e122c9594a74c8c",
		"5dc9da79a70659a9ad559cb701ded9a2ab9d823aad2f4960cfe370eff4604328",
	}
}

// P8.1: Leaf is the sum of a byte 0 and the data, of any length.
func TestLeaf(t *testing.T) {
	for _, n := range []int{0, 1, 2, 31, 32, 33, 54, 55, 56, 62, 63, 64, 65, 1000, 1001, 5000, api.MaxText, 3 * api.MaxText} {
		data := mixed(n)
		if got, want := tree.Leaf(data), summed("\x00"+data); got != want {
			t.Errorf("Leaf of %d bytes: %x, not %x", n, got, want)
		}
	}
	for b := range 256 {
		data := string([]byte{byte(b)})
		if got, want := tree.Leaf(data), summed("\x00"+data); got != want {
			t.Errorf("Leaf of byte %d: %x, not %x", b, got, want)
		}
	}
	if got := tree.Leaf(""); got != unhex(t, knownRoots()[1]) {
		t.Errorf("Leaf of nothing: %x", got)
	}
}

// P8.1: Node is the sum of a byte 1 and two sums, the left one first, of whatever lengths they are.
func TestNode(t *testing.T) {
	lengths := append(badLengths(), 32)
	for _, l := range lengths {
		for _, r := range lengths {
			left, right := mixed(l), mixed(r + 1)[1:]
			if got, want := tree.Node(left, right), summed("\x01"+left+right); got != want {
				t.Errorf("Node of %d and %d bytes: %x, not %x", l, r, got, want)
			}
		}
	}
	a, b := tree.Leaf("a"), tree.Leaf("b")
	if tree.Node(a, b) == tree.Node(b, a) {
		t.Error("Node is the same both ways round")
	}
	// A leaf of a node's bytes is not that node.
	if tree.Leaf(a+b) == tree.Node(a, b) || tree.Leaf("\x01"+a+b) == tree.Node(a, b) {
		t.Error("a leaf is taken for a node")
	}
}

// P8.1: the roots of the known trees, of 0 to 8 leaves.
func TestKnownRoots(t *testing.T) {
	var leaves []string
	for _, data := range knownData() {
		leaves = append(leaves, tree.Leaf(unhex(t, data)))
	}
	for n, want := range knownRoots() {
		if got, e := tree.Root(leaves[:n]); got != unhex(t, want) || e != api.OK {
			t.Errorf("Root of %d known leaves: %x, %d, not %s", n, got, e, want)
		}
	}
}

// P8.1: the chapter's examples, and other small trees, written out.
func TestSmallRoots(t *testing.T) {
	a, b, c, d, x, y, z := tree.Leaf("a"), tree.Leaf("b"), tree.Leaf("c"), tree.Leaf("d"), tree.Leaf("x"), tree.Leaf("y"), tree.Leaf("z")
	node := tree.Node
	for _, k := range []struct {
		leaves []string
		want   string
	}{
		{nil, unhex(t, knownRoots()[0])},
		{[]string{}, unhex(t, knownRoots()[0])},
		{[]string{a}, a},
		{[]string{a, b}, node(a, b)},
		{[]string{b, a}, node(b, a)},
		{[]string{a, a}, node(a, a)},
		{[]string{a, b, c}, node(node(a, b), c)},
		{[]string{a, b, c, d}, node(node(a, b), node(c, d))},
		{[]string{a, b, c, d, x}, node(node(node(a, b), node(c, d)), x)},
		{[]string{a, b, c, d, x, y}, node(node(node(a, b), node(c, d)), node(x, y))},
		{[]string{a, b, c, d, x, y, z}, node(node(node(a, b), node(c, d)), node(node(x, y), z))},
	} {
		if got, e := tree.Root(k.leaves); got != k.want || e != api.OK {
			t.Errorf("Root of %d leaves: %x, %d, not %x", len(k.leaves), got, e, k.want)
		}
	}
}

// P8.1: Root of rows of each number of leaves to 300, and of the greater ones at the edges, against a reckoning from the leaves up.
func TestRootOfEachNumber(t *testing.T) {
	all := row("a", most)
	list := counts()
	for n := range 300 {
		list = append(list, n)
	}
	for _, n := range list {
		if got, e := tree.Root(all[:n]); got != paired(all[:n]) || e != api.OK {
			t.Errorf("Root of %d leaves: %x, %d, not %x", n, got, e, paired(all[:n]))
		}
		if !tree.Right(all[:n]) {
			t.Errorf("a row of %d sums may not be", n)
		}
	}
}

// P8.1: leaves that are sums of all kinds of bytes, and alike, are no others.
func TestRootOfSumsThatAreAlike(t *testing.T) {
	for _, b := range []string{"\x00", "\x01", "\xff", "a"} {
		sum := strings.Repeat(b, 32)
		for n := range 20 {
			leaves := slices.Repeat([]string{sum}, n)
			if got, e := tree.Root(leaves); got != paired(leaves) || e != api.OK {
				t.Errorf("Root of %d sums of %q: %x, %d", n, b, got, e)
			}
		}
	}
}

// P8.1: each leaf, and its place, tells in the root.
func TestEachLeafTells(t *testing.T) {
	for _, n := range []int{1, 2, 3, 5, 8, 13, 21} {
		leaves := row("a", n)
		was, _ := tree.Root(leaves)
		for i := range n {
			other := slices.Clone(leaves)
			other[i] = summed("another")
			if got, e := tree.Root(other); got == was || e != api.OK {
				t.Errorf("Root of %d with another leaf %d: %x, %d", n, i, got, e)
			}
			if i > 0 {
				other = slices.Clone(leaves)
				other[i-1], other[i] = other[i], other[i-1]
				if got, e := tree.Root(other); got == was || e != api.OK {
					t.Errorf("Root of %d with leaves %d and %d turned round: %x, %d", n, i-1, i, got, e)
				}
			}
		}
	}
}

// mayNot holds that a row is refused by Right and by Root, with nothing beside the error.
func mayNot(t *testing.T, what string, leaves []string) {
	t.Helper()
	if tree.Right(leaves) {
		t.Errorf("%s: the row may be", what)
	}
	if got, e := tree.Root(leaves); got != "" || e != api.ErrArg {
		t.Errorf("%s: Root %x, %d, not ErrArg", what, got, e)
	}
}

// P8.1: a row of more than 4096 sums may not be; of so many it may.
func TestTooManySums(t *testing.T) {
	all := row("a", 2*most)
	for _, n := range []int{most + 1, most + 2, 5000, 2 * most} {
		mayNot(t, "too many", all[:n])
	}
	if !tree.Right(all[:most]) {
		t.Error("a row of 4096 may not be")
	}
	// Too many, and none of them of 32 bytes.
	mayNot(t, "too many empty ones", make([]string, most+1))
}

// P8.1: a row with a sum of another length than 32 bytes, wherever it stands, may not be.
func TestSumsOfOtherLengths(t *testing.T) {
	for _, n := range []int{1, 2, 3, 4, 5, 8, 9, 64, 65, most - 1, most} {
		leaves := row("a", n)
		for _, at := range spots(n) {
			for _, length := range badLengths() {
				mayNot(t, "another length", spoiled(leaves, at, length))
			}
			if other := spoiled(leaves, at, 32); !tree.Right(other) {
				t.Errorf("%d sums, one of them other bytes: the row may not be", n)
			}
		}
	}
	// As many bytes in all as there should be, but not in each.
	mayNot(t, "31 and 33 bytes", []string{mixed(31), mixed(33)})
	mayNot(t, "0 and 64 bytes", []string{"", mixed(64)})
}

// P8.1, R3: a nil row is an empty one.
func TestNoRow(t *testing.T) {
	for _, leaves := range [][]string{nil, {}, make([]string, 0, 10)} {
		if !tree.Right(leaves) {
			t.Error("an empty row may not be")
		}
		if got, e := tree.Root(leaves); got != summed("") || e != api.OK {
			t.Errorf("Root of an empty row: %x, %d", got, e)
		}
	}
}
