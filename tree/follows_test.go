package tree_test

import (
	"math/rand"
	"slices"
	"testing"

	"imprimatur/api"
	"imprimatur/tree"
)

// inPieces is the tree that goes on from none, by leaves in pieces of the lengths that next tells.
func inPieces(t *testing.T, leaves []string, next func() int) api.Grow {
	t.Helper()
	var g api.Grow
	for rest := leaves; len(rest) > 0; {
		n := min(next(), len(rest))
		was := g
		var e api.Errno
		if g, e = tree.Add(was, rest[:n]...); e != api.OK || g.N != was.N+n {
			t.Fatalf("Add of %d leaves behind %d: %d leaves, %d", n, was.N, g.N, e)
		}
		rest = rest[n:]
	}
	return g
}

// isOf holds that a tree has the parts of leaves, and their root.
func isOf(t *testing.T, what string, g api.Grow, leaves []string) {
	t.Helper()
	if want := grown(leaves); !alike(g, want) {
		t.Fatalf("%s: %x, not %x", what, g, want)
	}
	sum, e := tree.Sum(g)
	root, f := tree.Root(leaves)
	if sum != root || e != api.OK || f != api.OK {
		t.Fatalf("%s: Sum %x, %d, but Root %x, %d", what, sum, e, root, f)
	}
}

// P8.3: leaves in one piece, each alone, and in pieces of other lengths come to one tree, and to the row's root.
func TestPiecesOfEveryKind(t *testing.T) {
	all := row("a", most)
	list := []int{100, 1000, 2049, most - 1, most}
	for n := range 71 {
		list = append(list, n)
	}
	for _, n := range list {
		leaves := all[:n]
		isOf(t, "in one piece", inPieces(t, leaves, func() int { return n }), leaves)
		isOf(t, "each alone", inPieces(t, leaves, func() int { return 1 }), leaves)
		for _, length := range []int{2, 3, 7, 8, 13, 64, 100} {
			isOf(t, "in pieces of one length", inPieces(t, leaves, func() int { return length }), leaves)
		}
		growing := 0
		isOf(t, "in pieces that grow", inPieces(t, leaves, func() int { growing++; return growing }), leaves)
	}
}

// P8.3: of two pieces, wherever the leaves are cut.
func TestTwoPieces(t *testing.T) {
	all := row("a", 70)
	for _, n := range []int{1, 2, 5, 8, 31, 32, 33, 70} {
		for cut := range n + 1 {
			first, e := tree.Add(api.Grow{}, all[:cut]...)
			both, f := tree.Add(first, all[cut:n]...)
			if e != api.OK || f != api.OK {
				t.Fatalf("%d leaves cut at %d: %d, %d", n, cut, e, f)
			}
			isOf(t, "in two pieces", both, all[:n])
		}
	}
}

// P8.3: of pieces of any lengths, empty ones among them.
func TestAnyPieces(t *testing.T) {
	r := rand.New(rand.NewSource(8))
	all := row("a", most)
	for range 200 {
		n := r.Intn(1 + r.Intn(700))
		most := 1 + r.Intn(60)
		isOf(t, "in any pieces", inPieces(t, all[:n], func() int { return r.Intn(most + 1) }), all[:n])
	}
}

// held are a tree's parts with room behind them, and what they and the room were.
func held(leaves []string, room int) (g api.Grow, unchanged func() bool) {
	g = grown(leaves)
	g.Parts = copied(g.Parts, room)
	parts, behind := slices.Clone(g.Parts), slices.Clone(roomOf(g.Parts))
	return g, func() bool {
		return slices.Equal(g.Parts, parts) && slices.Equal(roomOf(g.Parts), behind)
	}
}

// R4: no call changes a list that it was handed, nor what stands behind its length.
func TestListsStay(t *testing.T) {
	all := row("a", 200)
	for n := range 70 {
		for _, room := range []int{0, 1, 3, 40} {
			g, unchanged := held(all[:n], room)
			leaves := copied(all[n:n+n/2+room], room)
			wasLeaves, behind := slices.Clone(leaves), slices.Clone(roomOf(leaves))
			tree.Add(g, leaves...)
			tree.Add(g, all[n])
			tree.Add(g)
			tree.Sum(g)
			tree.Root(leaves)
			tree.Right(leaves)
			if !unchanged() {
				t.Fatalf("the parts of %d leaves, with room for %d, are others", n, room)
			}
			if !slices.Equal(leaves, wasLeaves) || !slices.Equal(roomOf(leaves), behind) {
				t.Fatalf("%d leaves, with room for %d, are others", len(leaves), room)
			}
		}
	}
}

// R4: a tree that goes on two ways goes on from what it was each time, in either order, and the first answer stays behind the second.
func TestTwoWaysOn(t *testing.T) {
	all, others := row("a", 200), row("b", 200)
	for n := range 70 {
		for _, more := range []int{0, 1, 2, 3, 5, 20} {
			for _, room := range []int{0, 1, 30} {
				one := [][]string{all[n : n+more], others[n : n+more+1]}
				for range 2 {
					g, unchanged := held(all[:n], room)
					first, e := tree.Add(g, one[0]...)
					second, f := tree.Add(g, one[1]...)
					if e != api.OK || f != api.OK || !unchanged() {
						t.Fatalf("two ways on from %d leaves: %d, %d", n, e, f)
					}
					isOf(t, "the first way", first, slices.Concat(all[:n], one[0]))
					isOf(t, "the second way", second, slices.Concat(all[:n], one[1]))
					slices.Reverse(one)
				}
			}
		}
	}
}

// R4: what Add answered goes on two ways as well, as it holds room that Add made.
func TestTwoWaysOnFromAnAnswer(t *testing.T) {
	all, others := row("a", 200), row("b", 200)
	for n := range 130 {
		g, _ := tree.Add(api.Grow{}, all[:n]...)
		first, _ := tree.Add(g, all[n])
		second, _ := tree.Add(g, others[n])
		third, _ := tree.Add(g)
		isOf(t, "the tree", g, all[:n])
		isOf(t, "the first way", first, all[:n+1])
		isOf(t, "the second way", second, append(slices.Clone(all[:n]), others[n]))
		isOf(t, "by no leaf", third, all[:n])
	}
}

// An answer's parts are in new memory: who writes to them writes to no tree that was handed in.
func TestAnswersAreNew(t *testing.T) {
	all := row("a", 100)
	for n := range 40 {
		for more := range 4 {
			g, unchanged := held(all[:n], 2)
			got, e := tree.Add(g, all[n:n+more]...)
			if e != api.OK {
				t.Fatalf("%d leaves behind %d: %d", more, n, e)
			}
			for i := range got.Parts {
				got.Parts[i] = "written"
			}
			got.Parts = append(got.Parts, "written")
			if !unchanged() {
				t.Fatalf("%d leaves behind %d: the answer shares the parts", more, n)
			}
		}
	}
}

// R1: no call keeps anything.
func TestNothingIsKept(t *testing.T) {
	leaves := row("a", 77)
	round := func() string {
		root, e := tree.Root(leaves)
		g, f := tree.Add(api.Grow{}, leaves...)
		sum, h := tree.Sum(g)
		if e != api.OK || f != api.OK || h != api.OK {
			t.Errorf("%d, %d, %d", e, f, h)
		}
		return root + sum + tree.Leaf("a") + tree.Node(root, sum)
	}
	first := round()
	tree.Root(row("b", 100))
	tree.Root(make([]string, 3))
	tree.Add(api.Grow{}, row("b", 100)...)
	tree.Add(api.Grow{N: -1}, "")
	tree.Sum(api.Grow{N: 5})
	tree.Leaf("b")
	tree.Node("", "")
	if again := round(); again != first {
		t.Errorf("first %x, then %x", first, again)
	}
}

// mayBe tells whether a row may be, and treeMayBe whether a tree, as the chapter says.
func mayBe(leaves []string) bool {
	return len(leaves) <= most && !slices.ContainsFunc(leaves, func(s string) bool { return len(s) != 32 })
}

func treeMayBe(g api.Grow) bool {
	ones := 0
	for n := g.N; n > 0; n /= 2 {
		ones += n % 2
	}
	return g.N >= 0 && g.N <= most && len(g.Parts) == ones && mayBe(g.Parts)
}

// cut are pieces of a text, of 32 bytes each, the last one of what is left.
func cut(s string) []string {
	var out []string
	for ; len(s) > 32; s = s[32:] {
		out = append(out, s[:32])
	}
	if s != "" {
		out = append(out, s)
	}
	return out
}

// P1, P8.1 to P8.3: no call panics, whatever it is handed, and each answers as the chapter says.
func FuzzAnyTree(f *testing.F) {
	f.Add(0, "", "", "")
	f.Add(3, mixed(64), mixed(96), "data")
	f.Add(1, mixed(32), mixed(32), "")
	f.Add(most, mixed(32), "", "")
	f.Add(most, mixed(32), mixed(32), "")
	f.Add(most-1, mixed(12*32), mixed(32), "")
	f.Add(most+1, mixed(64), mixed(32), "")
	f.Add(-1, "", "a", "")
	f.Add(7, mixed(95), mixed(32), "")
	f.Fuzz(func(t *testing.T, n int, parts, more, data string) {
		g, leaves := api.Grow{N: n, Parts: cut(parts)}, cut(more)
		got, e := tree.Add(g, leaves...)
		sum, h := tree.Sum(g)
		root, k := tree.Root(leaves)
		wantAdd, wantSum, wantRoot := api.OK, api.OK, api.OK
		if !mayBe(leaves) {
			wantAdd, wantRoot = api.ErrArg, api.ErrArg
		}
		if !treeMayBe(g) {
			wantAdd, wantSum = api.ErrArg, api.ErrArg
		}
		if wantAdd == api.OK && n+len(leaves) > most {
			wantAdd = api.ErrMany
		}
		if e != wantAdd || h != wantSum || k != wantRoot || tree.Right(leaves) != mayBe(leaves) {
			t.Fatalf("%d leaves, %d parts, %d more: Add %d, Sum %d, Root %d, not %d, %d, %d", n, len(g.Parts), len(leaves), e, h, k, wantAdd, wantSum, wantRoot)
		}
		switch {
		case e != api.OK && (got.N != 0 || got.Parts != nil), h != api.OK && sum != "", k != api.OK && root != "":
			t.Fatalf("beside an error: %x, %x, %x", got, sum, root)
		case e == api.OK && (got.N != n+len(leaves) || !treeMayBe(got)):
			t.Fatalf("%x, of %x and %d more, may not be", got, g, len(leaves))
		case k == api.OK && root != halved(leaves):
			t.Fatalf("Root of %d leaves: %x", len(leaves), root)
		case tree.Leaf(data) != summed("\x00"+data) || tree.Node(parts, more) != summed("\x01"+parts+more):
			t.Fatalf("Leaf or Node of %q, %q, %q", data, parts, more)
		}
	})
}
