package tree_test

import (
	"fmt"
	"slices"
	"testing"

	"imprimatur/api"
	"imprimatur/tree"
)

// P8.2: a tree that goes on by one leaf has, for each number of leaves, the parts of these.
func TestAddLeafByLeaf(t *testing.T) {
	all := row("a", most)
	var g api.Grow
	for n := range most {
		next, e := tree.Add(g, all[n])
		if e != api.OK || next.N != n+1 || len(next.Parts) == 0 {
			t.Fatalf("Add of leaf %d: %d leaves, %d parts, %d", n, next.N, len(next.Parts), e)
		}
		// Of each number to 300, and of those about a power of 2.
		if n < 300 || slices.Contains(counts(), n+1) {
			if want := grown(all[:n+1]); !alike(next, want) {
				t.Fatalf("behind %d leaves: %x, not %x", n+1, next, want)
			}
		}
		g = next
	}
}

// P8.2: two parts, three and more become one, told by hand.
func TestPartsBecomeOne(t *testing.T) {
	leaves := row("a", 9)
	node := tree.Node
	ab, cd := node(leaves[0], leaves[1]), node(leaves[2], leaves[3])
	ef, gh := node(leaves[4], leaves[5]), node(leaves[6], leaves[7])
	four := node(ab, cd)
	eight := node(four, node(ef, gh))
	var g api.Grow
	for i, want := range [][]string{
		{leaves[0]}, {ab}, {ab, leaves[2]}, {four}, {four, leaves[4]}, {four, ef}, {four, ef, leaves[6]}, {eight}, {eight, leaves[8]},
	} {
		next, e := tree.Add(g, leaves[i])
		if e != api.OK || next.N != i+1 || !slices.Equal(next.Parts, want) {
			t.Fatalf("behind %d leaves: %d, %x, %d, not %x", i+1, next.N, next.Parts, e, want)
		}
		g = next
	}
}

// P8.2: at 4095 leaves there are twelve parts, and by one leaf more they are one.
func TestTheLastLeaf(t *testing.T) {
	all := row("a", most)
	g := grown(all[:most-1])
	if len(g.Parts) != 12 {
		t.Fatalf("%d parts", len(g.Parts))
	}
	full, e := tree.Add(g, all[most-1])
	if e != api.OK || full.N != most || !slices.Equal(full.Parts, []string{paired(all)}) {
		t.Errorf("4096 leaves: %d, %x, %d", full.N, full.Parts, e)
	}
	if sum, e := tree.Sum(full); sum != paired(all) || e != api.OK {
		t.Errorf("Sum of 4096 leaves: %x, %d", sum, e)
	}
}

// P8.2: the tree's parts count as they are, whatever they are the sums of.
func TestAddGoesOnFromAnyParts(t *testing.T) {
	node := tree.Node
	p := row("part", 4)
	x := row("leaf", 3)
	for _, c := range []struct {
		g      api.Grow
		leaves []string
		want   api.Grow
	}{
		{api.Grow{N: 1, Parts: p[:1]}, x[:1], api.Grow{N: 2, Parts: []string{node(p[0], x[0])}}},
		{api.Grow{N: 2, Parts: p[:1]}, x[:1], api.Grow{N: 3, Parts: []string{p[0], x[0]}}},
		{api.Grow{N: 3, Parts: p[:2]}, x[:1], api.Grow{N: 4, Parts: []string{node(p[0], node(p[1], x[0]))}}},
		{api.Grow{N: 6, Parts: p[:2]}, x[:1], api.Grow{N: 7, Parts: []string{p[0], p[1], x[0]}}},
		{api.Grow{N: 6, Parts: p[:2]}, x[:2], api.Grow{N: 8, Parts: []string{node(p[0], node(p[1], node(x[0], x[1])))}}},
		{api.Grow{N: 13, Parts: p[:3]}, x[:3], api.Grow{N: 16, Parts: []string{node(p[0], node(p[1], node(node(p[2], x[0]), node(x[1], x[2]))))}}},
		{api.Grow{N: 1024, Parts: p[:1]}, x[:2], api.Grow{N: 1026, Parts: []string{p[0], node(x[0], x[1])}}},
		{api.Grow{N: 2816, Parts: p[:3]}, x[:1], api.Grow{N: 2817, Parts: []string{p[0], p[1], p[2], x[0]}}},
		{api.Grow{N: 15, Parts: p}, x[:1], api.Grow{N: 16, Parts: []string{node(p[0], node(p[1], node(p[2], node(p[3], x[0]))))}}},
		{api.Grow{N: 27, Parts: p}, x[:1], api.Grow{N: 28, Parts: []string{p[0], p[1], node(p[2], node(p[3], x[0]))}}},
	} {
		if got, e := tree.Add(c.g, c.leaves...); e != api.OK || !alike(got, c.want) {
			t.Errorf("%d leaves more behind %d: %x, %d, not %x", len(c.leaves), c.g.N, got, e, c.want)
		}
	}
}

// P8.2: Sum makes one of all parts, from the last one on, whatever they are the sums of.
func TestSumOfAnyParts(t *testing.T) {
	node := tree.Node
	p := row("part", 12)
	for _, c := range []struct {
		g    api.Grow
		want string
	}{
		{api.Grow{}, summed("")},
		{api.Grow{Parts: []string{}}, summed("")},
		{api.Grow{N: 1, Parts: p[:1]}, p[0]},
		{api.Grow{N: 4096, Parts: p[:1]}, p[0]},
		{api.Grow{N: 3, Parts: p[:2]}, node(p[0], p[1])},
		{api.Grow{N: 2560, Parts: p[:2]}, node(p[0], p[1])},
		{api.Grow{N: 7, Parts: p[:3]}, node(p[0], node(p[1], p[2]))},
		{api.Grow{N: 15, Parts: p[:4]}, node(p[0], node(p[1], node(p[2], p[3])))},
	} {
		if got, e := tree.Sum(c.g); got != c.want || e != api.OK {
			t.Errorf("Sum of %d leaves: %x, %d, not %x", c.g.N, got, e, c.want)
		}
	}
	want := p[11]
	for i := 10; i >= 0; i-- {
		want = nodeOf(p[i], want)
	}
	if got, e := tree.Sum(api.Grow{N: 4095, Parts: p}); got != want || e != api.OK {
		t.Errorf("Sum of twelve parts: %x, %d, not %x", got, e, want)
	}
}

// badTrees are those that may not be, by what is wrong with them.
func badTrees() map[string]api.Grow {
	p := row("part", 14)
	out := map[string]api.Grow{
		"N -1":         {N: -1},
		"N -1, a part": {N: -1, Parts: p[:1]},
		"N -1, as many parts as it has bits that are 1": {N: -1, Parts: row("part", 64)},
		"N -4096":                 {N: -4096},
		"N -4096, a part":         {N: -4096, Parts: p[:1]},
		"the least N":             {N: -1 << 63, Parts: p[:1]},
		"the greatest N":          {N: 1<<63 - 1, Parts: row("part", 63)},
		"N 4097":                  {N: 4097, Parts: p[:2]},
		"N 8192":                  {N: 8192, Parts: p[:1]},
		"N 2 to the 32nd":         {N: 1 << 32, Parts: p[:1]},
		"N 2 to the 62nd":         {N: 1 << 62, Parts: p[:1]},
		"no leaves, a part":       {Parts: p[:1]},
		"no leaves, an empty":     {Parts: []string{""}},
		"one leaf, no part":       {N: 1},
		"as many parts as leaves": {N: 2, Parts: p[:2]},
	}
	for _, n := range []int{1, 2, 3, 6, 7, 8, 70, 1000, most - 1, most} {
		right := grown(row("a", n)).Parts
		out[fmt.Sprintf("%d leaves, a part too few", n)] = api.Grow{N: n, Parts: right[1:]}
		out[fmt.Sprintf("%d leaves, the last part too few", n)] = api.Grow{N: n, Parts: right[:len(right)-1]}
		out[fmt.Sprintf("%d leaves, a part too many", n)] = api.Grow{N: n, Parts: append(slices.Clone(right), p[0])}
		for _, at := range spots(len(right)) {
			for _, length := range badLengths() {
				out[fmt.Sprintf("%d leaves, part %d of %d bytes", n, at, length)] = api.Grow{N: n, Parts: spoiled(right, at, length)}
			}
		}
	}
	return out
}

// P8.2: a tree that may not be is refused by Add, with whatever leaves, and by Sum, with nothing beside the error.
func TestTreesThatMayNotBe(t *testing.T) {
	rows := map[string][]string{
		"none":                   nil,
		"an empty row":           {},
		"one leaf":               row("a", 1),
		"nine leaves":            row("a", 9),
		"4096 leaves":            row("a", most), // more than there may be then, too: ErrArg comes first
		"leaves that may not be": {mixed(31)},
		"too many":               row("a", most+1),
	}
	for what, g := range badTrees() {
		for which, leaves := range rows {
			if got, e := tree.Add(g, leaves...); e != api.ErrArg || got.N != 0 || got.Parts != nil {
				t.Errorf("%s, Add of %s: %x, %d, not ErrArg", what, which, got, e)
			}
		}
		if got, e := tree.Sum(g); got != "" || e != api.ErrArg {
			t.Errorf("%s: Sum %x, %d, not ErrArg", what, got, e)
		}
	}
}

// P8.2: leaves that may not be are refused by each tree that may, with nothing beside the error.
func TestLeavesThatMayNotBe(t *testing.T) {
	all := row("a", most+1)
	for _, n := range []int{0, 1, 3, 64, most - 2, most - 1, most} {
		g := grown(all[:n])
		refused := func(what string, leaves []string) {
			t.Helper()
			if got, e := tree.Add(g, leaves...); e != api.ErrArg || got.N != 0 || got.Parts != nil {
				t.Errorf("%s behind %d: %x, %d, not ErrArg", what, n, got, e)
			}
		}
		// Where there would be too many as well, ErrArg comes first.
		for _, many := range []int{1, 2, 3, 9, most} {
			for _, at := range spots(many) {
				for _, length := range badLengths() {
					refused(fmt.Sprintf("%d leaves, the one at %d of %d bytes", many, at, length), spoiled(all[:many], at, length))
				}
			}
		}
		refused("4097 leaves", all)
		refused("31 and 33 bytes", []string{mixed(31), mixed(33)})
	}
}

// P8.2: there may be just 4096 leaves then; with one more, or many, it is ErrMany, with nothing beside.
func TestTheMostLeaves(t *testing.T) {
	all := row("a", 2*most)
	for _, n := range []int{0, 1, 2, 100, 2048, most - 3, most - 1, most} {
		g := grown(all[:n])
		if full, e := tree.Add(g, all[n:most]...); e != api.OK || !alike(full, grown(all[:most])) {
			t.Errorf("4096 leaves, %d of them ahead: %x, %d", n, full, e)
		}
		for _, more := range []int{1, 2, 100, most} {
			if most-n+more > most {
				continue
			}
			if got, e := tree.Add(g, all[n:most+more]...); e != api.ErrMany || got.N != 0 || got.Parts != nil {
				t.Errorf("%d leaves behind %d: %x, %d, not ErrMany", most-n+more, n, got, e)
			}
		}
	}
}

// P8.2: by no leaves a tree stays what it is, a full one too.
func TestNoLeavesAdded(t *testing.T) {
	all := row("a", most)
	for _, n := range counts() {
		g := grown(all[:n])
		for _, leaves := range [][]string{nil, {}} {
			if got, e := tree.Add(g, leaves...); e != api.OK || !alike(got, g) {
				t.Errorf("no leaves behind %d: %x, %d", n, got, e)
			}
		}
	}
	for _, g := range []api.Grow{{}, {Parts: []string{}}} {
		got, e := tree.Add(g)
		if e != api.OK || got.N != 0 || len(got.Parts) != 0 {
			t.Errorf("no leaves behind none: %x, %d", got, e)
		}
		got, e = tree.Add(g, all[:3]...)
		if e != api.OK || !alike(got, grown(all[:3])) {
			t.Errorf("3 leaves behind none: %x, %d", got, e)
		}
	}
}

// P8.2: Sum of the trees of 0 to 70 leaves, and of greater ones.
func TestSumOfEachNumber(t *testing.T) {
	all := row("a", most)
	list := counts()
	for n := range 71 {
		list = append(list, n)
	}
	for _, n := range list {
		if got, e := tree.Sum(grown(all[:n])); got != paired(all[:n]) || e != api.OK {
			t.Errorf("Sum of %d leaves: %x, %d, not %x", n, got, e, paired(all[:n]))
		}
	}
}
