package proof_test

import (
	"fmt"
	"slices"
	"testing"

	"imprimatur/api"
	"imprimatur/proof"
)

func (s shown) holds() api.Errno {
	return proof.Holds(s.leaf, s.at, s.size, s.path, s.root)
}

// answers holds that Holds answers what is told here, which the chapter's words and, where the arguments may be, RFC 9162's steps tell as well.
func (s shown) answers(t *testing.T, what string, want api.Errno) {
	t.Helper()
	if got := s.holds(); got != want {
		t.Errorf("%s, at %d of %d, a path of %d: %d, not %d", what, s.at, s.size, len(s.path), got, want)
	}
	if s.want() != want || want != api.ErrArg && s.climbs() != (want == api.OK) {
		t.Fatalf("%s, at %d of %d: the reckonings tell %d, %v, not %d", what, s.at, s.size, s.want(), s.climbs(), want)
	}
}

// badSums are texts that are no sums, in place of one.
func badSums(sum string) []string {
	return []string{"", sum[:1], sum[:31], sum + "\x00", sum + sum[:31], sum + sum, sum + sum + sum[:1]}
}

// P9.2: one leaf has no path, and is the root.
func TestHoldsOfOne(t *testing.T) {
	a, b := row("a", 1)[0], row("b", 1)[0]
	for _, none := range [][]string{nil, {}} {
		shown{a, 0, 1, none, a}.answers(t, "one leaf", api.OK)
		shown{a, 0, 1, none, b}.answers(t, "another root", api.ErrProof)
		shown{b, 0, 1, none, a}.answers(t, "another leaf", api.ErrProof)
	}
	for _, path := range [][]string{{a}, {b}, {a, a}, {b, a}} {
		shown{a, 0, 1, path, a}.answers(t, "a path", api.ErrProof)
		shown{a, 0, 1, path, nodeOf(a, path[0])}.answers(t, "a path to the node", api.ErrProof)
	}
}

// P9.2: of two leaves and of three, told by hand.
func TestHoldsOfFew(t *testing.T) {
	leaves := row("a", 3)
	a, b, c := leaves[0], leaves[1], leaves[2]
	ab := nodeOf(a, b)
	abc := nodeOf(ab, c)
	shown{a, 0, 2, []string{b}, ab}.answers(t, "a of a, b", api.OK)
	shown{b, 1, 2, []string{a}, ab}.answers(t, "b of a, b", api.OK)
	shown{a, 1, 2, []string{b}, ab}.answers(t, "a at the place of b", api.ErrProof)
	shown{b, 0, 2, []string{a}, ab}.answers(t, "b at the place of a", api.ErrProof)
	shown{a, 0, 3, []string{b, c}, abc}.answers(t, "a of a, b, c", api.OK)
	shown{b, 1, 3, []string{a, c}, abc}.answers(t, "b of a, b, c", api.OK)
	shown{c, 2, 3, []string{ab}, abc}.answers(t, "c of a, b, c", api.OK)
	shown{a, 0, 3, []string{c, b}, abc}.answers(t, "two sums exchanged", api.ErrProof)
	shown{ab, 0, 2, []string{c}, abc}.answers(t, "a node for a leaf, in two", api.OK)
	shown{ab, 0, 3, []string{c}, abc}.answers(t, "a node for a leaf, in three", api.ErrProof)
	shown{abc, 0, 3, nil, abc}.answers(t, "the root for a leaf", api.ErrProof)
	shown{abc, 2, 3, nil, abc}.answers(t, "the root for the last leaf", api.ErrProof)
}

// sizesAndPlaces are those that no leaf has, by what is wrong.
func sizesAndPlaces() [][2]int {
	out := [][2]int{}
	for _, size := range []int{least, least + 1, -4096, -1, 0} {
		for _, at := range []int{least, least + 1, size - 1, size, -1, 0, 1, greatest - 1, greatest} {
			out = append(out, [2]int{at, size})
		}
	}
	for _, size := range []int{most + 1, most + 2, 2 * most, 1 << 32, 1 << 62, greatest - 1, greatest} {
		for _, at := range []int{least, -1, 0, 1, most - 1, most, size - 1, size} {
			out = append(out, [2]int{at, size})
		}
	}
	for _, size := range []int{1, 2, 3, 8, 4095, 4096} {
		for _, at := range []int{least, -size, -1, size, size + 1, most, 1 << 32, greatest} {
			if at >= size || at < 0 {
				out = append(out, [2]int{at, size})
			}
		}
	}
	return out
}

// P9.2: a place that is none of so many, or too many, are refused, with a path that would hold or not.
func TestHoldsAtNoPlace(t *testing.T) {
	s := shownOf(row("a", 8), 5)
	one := shownOf(row("a", 1), 0)
	for _, c := range sizesAndPlaces() {
		for _, was := range []shown{s, one, {s.leaf, 5, 8, s.path[1:], s.root}, {s.leaf, 5, 8, s.path, s.leaf}} {
			was.at, was.size = c[0], c[1]
			was.answers(t, "no place", api.ErrArg)
		}
	}
}

// P9.2: in 4096 leaves a path holds, in 4097 it is refused, though it would lead to the root.
func TestHoldsOfTheMost(t *testing.T) {
	all := row("a", most+1)
	for _, at := range []int{0, 1, 2047, 2048, most - 2, most - 1} {
		s := shownOf(all[:most], at)
		s.answers(t, "of 4096", api.OK)
		s.root = all[0]
		s.answers(t, "of 4096, another root", api.ErrProof)
	}
	for _, at := range []int{0, 1, most - 1, most} {
		s := shownOf(all, at)
		if !s.climbs() {
			t.Fatalf("the path of %d of 4097 does not lead up", at)
		}
		s.answers(t, "of 4097", api.ErrArg)
	}
}

// P9.2: a text that has not 32 bytes, as leaf, root or one of the path, alone and together with what would be ErrProof.
func TestHoldsOfOtherLengths(t *testing.T) {
	for _, n := range []int{1, 2, 3, 8, 65, most} {
		leaves := row("a", n)
		for _, at := range spots(n) {
			right := shownOf(leaves, at)
			// None of these holds, and each is ErrArg once one text of it is no sum.
			wrong := right
			wrong.root = row("b", 1)[0]
			longer := right
			longer.path = append(slices.Clone(right.path), right.root)
			for i, s := range []shown{right, wrong, longer} {
				what := fmt.Sprintf("variety %d", i)
				for _, bad := range badSums(leaves[at]) {
					one := s
					one.leaf = bad
					one.answers(t, what+", leaf", api.ErrArg)
					one = s
					one.root = bad
					one.answers(t, what+", root", api.ErrArg)
					for _, spot := range spots(len(s.path)) {
						one = s
						one.path = changed(s.path, spot, bad)
						one.answers(t, what+", one of the path", api.ErrArg)
					}
				}
			}
		}
	}
	// 64 bytes for two sums of 32.
	s := shownOf(row("a", 8), 5)
	s.path = []string{s.path[0] + s.path[1], s.path[2]}
	s.answers(t, "two sums as one", api.ErrArg)
	s.path = []string{s.path[0][:31], s.path[0][31:], s.path[1]}
	s.answers(t, "31 and 33 bytes", api.ErrArg)
}

// P9.2: paths of too many sums, however many, show nothing, but are no wrong argument, as long as each has 32 bytes.
func TestHoldsOfLongPaths(t *testing.T) {
	all := row("a", most+2)
	for _, size := range []int{1, 2, 8, most} {
		s := shownOf(all[:size], size-1)
		for _, n := range []int{13, 64, 65, most, most + 1, most + 2} {
			s.path = all[:n]
			s.answers(t, "a long path", api.ErrProof)
			s.path = spoiled(all[:n], n-1, 31)
			s.answers(t, "a long path, the last sum of 31 bytes", api.ErrArg)
		}
	}
}

// shownWrong are varieties of what holds, in distinct leaves, that do not.
func shownWrong(s shown) map[string]shown {
	out := map[string]shown{}
	with := func(what string, path ...string) {
		other := s
		other.path = path
		out[what] = other
	}
	n := len(s.path)
	for _, bit := range []int{0, 7, 100, 255} {
		for i := range n {
			with(fmt.Sprintf("bit %d of sum %d turned", bit, i), changed(s.path, i, turned(s.path[i], bit))...)
		}
		other := s
		other.leaf = turned(s.leaf, bit)
		out[fmt.Sprintf("bit %d of the leaf turned", bit)] = other
		other = s
		other.root = turned(s.root, bit)
		out[fmt.Sprintf("bit %d of the root turned", bit)] = other
	}
	for i := range n {
		with(fmt.Sprintf("without sum %d", i), slices.Delete(slices.Clone(s.path), i, i+1)...)
		with(fmt.Sprintf("sum %d twice", i), slices.Insert(slices.Clone(s.path), i, s.path[i])...)
		for j := range i {
			both := changed(s.path, i, s.path[j])
			both[j] = s.path[i]
			with(fmt.Sprintf("sums %d and %d exchanged", j, i), both...)
		}
	}
	for _, more := range []string{s.leaf, s.root, string(make([]byte, 32))} {
		with("longer behind by "+more, append(slices.Clone(s.path), more)...)
		with("longer ahead by "+more, append([]string{more}, s.path...)...)
	}
	if n > 0 {
		with("none")
	}
	return out
}

// P9.2: what is not the path, the leaf or the root is ErrProof.
func TestHoldsNot(t *testing.T) {
	for _, n := range []int{1, 2, 3, 4, 5, 7, 8, 9, 13, 63, 64, 65} {
		leaves := row("a", n)
		for at := range n {
			s := shownOf(leaves, at)
			s.answers(t, "as it is", api.OK)
			for what, other := range shownWrong(s) {
				other.answers(t, what, api.ErrProof)
			}
			for i, leaf := range leaves {
				if i != at {
					other := s
					other.leaf = leaf
					other.answers(t, "another leaf", api.ErrProof)
				}
			}
		}
	}
}

// P9.2: another size is another tree: where what stands beside is on other sides then, the path shows nothing; where it is not, the path makes the root that it made.
func TestHoldsInAnotherSize(t *testing.T) {
	leaves := row("a", 9)
	for _, c := range []struct {
		at, size, other int
		want            api.Errno
	}{
		{0, 1, 2, api.ErrProof}, {0, 2, 1, api.ErrProof}, {0, 2, 3, api.ErrProof}, {0, 4, 5, api.ErrProof},
		{0, 3, 4, api.OK}, {0, 4, 3, api.OK}, {0, 8, 5, api.OK}, {0, 9, 8, api.ErrProof}, {0, 9, 16, api.OK}, {0, 9, 17, api.ErrProof}, {0, 9, most, api.ErrProof},
		{2, 3, 4, api.ErrProof}, {2, 3, 5, api.ErrProof}, {3, 4, 5, api.ErrProof}, {4, 5, 6, api.ErrProof}, {4, 5, 8, api.ErrProof},
		{6, 7, 8, api.ErrProof}, {5, 7, 8, api.OK}, {8, 9, 10, api.ErrProof}, {8, 9, 16, api.ErrProof}, {7, 8, 9, api.ErrProof},
	} {
		s := shownOf(leaves[:c.size], c.at)
		s.size = c.other
		s.answers(t, fmt.Sprintf("of %d", c.size), c.want)
	}
	for n := 1; n <= 9; n++ {
		for at := range n {
			s := shownOf(leaves[:n], at)
			for s.size = 1; s.size < 40; s.size++ {
				s.answers(t, "another size", s.want())
			}
		}
	}
}

// P9.2: a path shows any leaf's sum, also one of no row, as long as it leads to the root.
func TestHoldsOfAnySums(t *testing.T) {
	x := row("x", 14)
	shown{x[0], 2, 6, x[1:4], nodeOf(nodeOf(x[2], nodeOf(x[0], x[1])), x[3])}.answers(t, "2 of 6", api.OK)
	shown{x[0], 5, 6, x[1:3], nodeOf(x[2], nodeOf(x[1], x[0]))}.answers(t, "5 of 6", api.OK)
	shown{x[0], 4, 5, x[1:2], nodeOf(x[1], x[0])}.answers(t, "4 of 5", api.OK)
	shown{x[0], 2048, 2049, x[1:2], nodeOf(x[1], x[0])}.answers(t, "2048 of 2049", api.OK)
	rights, lefts := x[0], x[0]
	for _, sum := range x[1:13] {
		rights, lefts = nodeOf(rights, sum), nodeOf(sum, lefts)
	}
	shown{x[0], 0, most, x[1:13], rights}.answers(t, "the first of 4096", api.OK)
	shown{x[0], most - 1, most, x[1:13], lefts}.answers(t, "the last of 4096", api.OK)
	shown{x[0], most - 1, most, x[1:13], rights}.answers(t, "the last of 4096, the other way round", api.ErrProof)
	shown{x[0], most - 1, most, x[1:14], nodeOf(x[13], lefts)}.answers(t, "13 sums", api.ErrProof)
	shown{x[0], most - 1, most, x[2:13], lefts}.answers(t, "11 sums", api.ErrProof)
}
