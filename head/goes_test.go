package head_test

import (
	"fmt"
	"slices"
	"strings"
	"testing"

	"imprimatur/api"
	"imprimatur/head"
	"imprimatur/proof"
)

// grown is a head of the first n of a row, with a signature that nobody made: Goes does not ask for one.
func grown(row []string, n, time int) api.Head {
	return api.Head{Size: n, Root: rootOf(row[:n]), Time: time, Sig: mixed(64)}
}

// stepOf is the step from the first m of the first n.
func stepOf(t *testing.T, row []string, m, n int) []string {
	t.Helper()
	step, e := proof.Step(row[:n], m)
	if e != api.OK {
		t.Fatalf("Step from %d of %d: %d", m, n, e)
	}
	return step
}

// goes holds that Goes answers what is told here.
func goes(t *testing.T, what string, old, next api.Head, step []string, want api.Errno) {
	t.Helper()
	if e := head.Goes(old, next, step); e != want {
		t.Errorf("%s: from %d at %d to %d at %d by %d sums: %d, not %d", what, old.Size, old.Time, next.Size, next.Time, len(step), e, want)
	}
}

// P10.3, the chapter's example: of one size, with two roots.
func TestTwoRoots(t *testing.T) {
	t.Parallel()
	row := leaves(20)
	for _, n := range []int{0, 1, 2, 19, most} {
		old := api.Head{Size: n, Root: rootOf(row[:min(n, 20)]), Time: 50, Sig: mixed(64)}
		for bit := range 256 {
			next := old
			next.Root = turned(old.Root, bit)
			for _, time := range []int{0, 49, 50, 51, latest} {
				next.Time = time
				for _, step := range [][]string{nil, {}, {mixed(32)}, {mixed(31)}, {""}, row} {
					goes(t, "two roots", old, next, step, api.ErrSplit)
					goes(t, "two roots", next, old, step, api.ErrSplit)
				}
			}
		}
	}
}

// P10.3: from each number of leaves to each, at the same time, a later one, an earlier one.
func TestGoes(t *testing.T) {
	t.Parallel()
	row := leaves(40)
	for n := range 41 {
		for m := range 41 {
			var step []string
			want := api.ErrHead
			if m <= n {
				step, want = stepOf(t, row, m, n), api.OK
			}
			for _, times := range [][2]int{{0, 0}, {0, 1}, {7, 7}, {7, 8}, {0, latest}, {latest - 1, latest}, {latest, latest}} {
				goes(t, "on", grown(row, m, times[0]), grown(row, n, times[1]), step, want)
			}
			for _, times := range [][2]int{{1, 0}, {8, 7}, {latest, 0}, {latest, latest - 1}, {1 << 32, 5}} {
				goes(t, "back in time", grown(row, m, times[0]), grown(row, n, times[1]), step, api.ErrHead)
			}
		}
	}
}

// P10.3: great trees as well, up to the greatest.
func TestGoesFar(t *testing.T) {
	t.Parallel()
	row := leaves(most)
	for _, n := range []int{2048, 2049, 4095, 4096} {
		for _, m := range []int{0, 1, 2, 3, 1000, 2047, 2048, 2049, 4094, 4095, 4096} {
			if m > n {
				goes(t, "far back", grown(row, m, 5), grown(row, n, 6), nil, api.ErrHead)
				continue
			}
			step := stepOf(t, row, m, n)
			goes(t, "far", grown(row, m, 5), grown(row, n, 6), step, api.OK)
			goes(t, "far, and back in time", grown(row, m, 6), grown(row, n, 5), step, api.ErrHead)
			goes(t, "far, with one sum more", grown(row, m, 5), grown(row, n, 6), append(slices.Clone(step), row[0]), api.ErrProof)
		}
	}
}

// P10.3: less size, less time, both, with the order in which errors are found: the same size with two roots ahead of them, the step behind them.
func TestOrderOfErrors(t *testing.T) {
	t.Parallel()
	row := leaves(20)
	steps := [][]string{nil, {mixed(32)}, {mixed(31)}, {mixed(33)}, {""}, stepOf(t, row, 3, 11), row, slices.Repeat([]string{""}, 5000)}
	for _, step := range steps {
		old := grown(row, 11, 50)
		goes(t, "less size", old, grown(row, 3, 50), step, api.ErrHead)
		goes(t, "less size, later", old, grown(row, 3, 51), step, api.ErrHead)
		goes(t, "less size, earlier", old, grown(row, 3, 49), step, api.ErrHead)
		goes(t, "one leaf less", old, grown(row, 10, latest), step, api.ErrHead)
		goes(t, "no leaves", old, grown(row, 0, 60), step, api.ErrHead)
		goes(t, "more size, earlier", old, grown(row, 12, 49), step, api.ErrHead)
		goes(t, "all leaves, at the beginning", old, grown(row, 20, 0), step, api.ErrHead)
		goes(t, "the same, earlier", old, grown(row, 11, 49), step, api.ErrHead)
		other := grown(row, 11, 49)
		other.Root = row[0]
		goes(t, "two roots, earlier", old, other, step, api.ErrSplit)
		goes(t, "two roots, later", other, old, step, api.ErrSplit)
		less := grown(row, 3, 60)
		less.Root = old.Root
		goes(t, "less size, of the same root", old, less, step, api.ErrHead)
		goes(t, "less size, of another root", old, api.Head{Size: 10, Root: mixed(32), Time: 50, Sig: mixed(64)}, step, api.ErrHead)
	}
}

// P10.3: one head that may not be, or both: ErrArg ahead of all else, whatever would be said of them.
func TestGoesOfWhatMayNotBe(t *testing.T) {
	t.Parallel()
	row := leaves(20)
	split := grown(row, 11, 40)
	split.Root = mixed(32)
	for i, pair := range []struct {
		old, next api.Head
		step      []string
		want      api.Errno
	}{
		{grown(row, 3, 50), grown(row, 11, 51), stepOf(t, row, 3, 11), api.OK},
		{grown(row, 11, 50), grown(row, 11, 50), nil, api.OK},
		{grown(row, 11, 50), split, nil, api.ErrSplit},
		{grown(row, 11, 50), grown(row, 3, 50), nil, api.ErrHead},
		{grown(row, 3, 50), grown(row, 11, 49), stepOf(t, row, 3, 11), api.ErrHead},
		{grown(row, 3, 50), grown(row, 11, 51), nil, api.ErrProof},
		{grown(row, 3, 50), grown(row, 11, 51), []string{"a"}, api.ErrArg},
	} {
		goes(t, fmt.Sprintf("pair %d", i), pair.old, pair.next, pair.step, pair.want)
		olds, nexts := wrong(pair.old), wrong(pair.next)
		for j, old := range olds {
			goes(t, "old may not be", old, pair.next, pair.step, api.ErrArg)
			goes(t, "neither may be", old, nexts[j], pair.step, api.ErrArg)
			goes(t, "the same, which may not be", old, old, pair.step, api.ErrArg)
			goes(t, "neither may be", old, nexts[len(nexts)-1-j], pair.step, api.ErrArg)
		}
		for _, next := range nexts {
			goes(t, "next may not be", pair.old, next, pair.step, api.ErrArg)
		}
		goes(t, "no heads", api.Head{}, api.Head{}, pair.step, api.ErrArg)
		goes(t, "no old head", api.Head{}, pair.next, pair.step, api.ErrArg)
		goes(t, "no next head", pair.old, api.Head{}, pair.step, api.ErrArg)
	}
	// Heads of 4097 leaves would follow one another by their steps, if they might be.
	all := leaves(most + 1)
	goes(t, "4097 leaves", grown(all, most+1, 5), grown(all, most+1, 5), nil, api.ErrArg)
	goes(t, "to 4097 leaves", grown(all, most, 5), grown(all, most+1, 5), []string{all[most]}, api.ErrArg)
	goes(t, "beyond the time", grown(row, 3, 5), grown(row, 11, latest+1), stepOf(t, row, 3, 11), api.ErrArg)
	goes(t, "ahead of time", grown(row, 3, -1), grown(row, 11, 5), stepOf(t, row, 3, 11), api.ErrArg)
}

// badSteps are steps that are none: too short, too long, with a bit turned; and such as have a sum of another length.
func badSteps(step, more []string) (none, notSums [][]string) {
	for i := range step {
		none = append(none, slices.Delete(slices.Clone(step), i, i+1))
		for _, bit := range []int{0, 100, 255} {
			other := slices.Clone(step)
			other[i] = turned(step[i], bit)
			none = append(none, other)
		}
		for _, sum := range []string{step[i][:31], step[i] + "\x00", "", step[i] + step[i]} {
			other := slices.Clone(step)
			other[i] = sum
			notSums = append(notSums, other)
		}
	}
	for i := range len(step) + 1 {
		for _, sum := range more {
			none = append(none, slices.Insert(slices.Clone(step), i, sum))
		}
		notSums = append(notSums, slices.Insert(slices.Clone(step), i, mixed(31)), slices.Insert(slices.Clone(step), i, ""))
	}
	return none, notSums
}

// P10.3: what is said of a step is what proof.Follows says of it.
func TestSteps(t *testing.T) {
	t.Parallel()
	row := leaves(24)
	for n := range 24 {
		for m := range n + 1 {
			old, next := grown(row, m, 5), grown(row, n, 5)
			step := stepOf(t, row, m, n)
			none, notSums := badSteps(step, []string{row[0], old.Root, next.Root})
			for _, other := range none {
				goes(t, "no step", old, next, other, api.ErrProof)
			}
			for _, other := range notSums {
				goes(t, "no sums", old, next, other, api.ErrArg)
			}
			for _, other := range append(append(none, notSums...), step, row, slices.Repeat(row, 300), []string{strings.Repeat("a", 65537)}) {
				goes(t, "as proof says", old, next, other, proof.Follows(m, n, old.Root, next.Root, other))
			}
		}
	}
}

// P10.3: from and to roots that are others than those of the leaves.
func TestOtherRoots(t *testing.T) {
	t.Parallel()
	row := leaves(24)
	for n := range 24 {
		for m := range n {
			old, next := grown(row, m, 5), grown(row, n, 5)
			step := stepOf(t, row, m, n)
			other := old
			other.Root = row[23]
			goes(t, "from another root", other, next, step, api.ErrProof)
			other.Root = next.Root
			goes(t, "from the next one's root", other, next, step, api.ErrProof)
			other = next
			other.Root = row[23]
			want := api.ErrProof
			if m == 0 {
				want = api.OK // from nothing, all roots follow
			}
			goes(t, "to another root", old, other, step, want)
			other = grown(row, n+1, 5)
			goes(t, "to another size", old, other, step, proof.Follows(m, n+1, old.Root, other.Root, step))
		}
	}
}

// P10.3: from no leaves: the root of nothing alone, and no step; and to the same size with the same root: no step.
func TestFromNothingAndToTheSame(t *testing.T) {
	t.Parallel()
	row := leaves(24)
	for n := range 24 {
		same := grown(row, n, 5)
		nothing := grown(row, 0, 5)
		for _, step := range [][]string{nil, {}} {
			goes(t, "from nothing", nothing, same, step, api.OK)
			goes(t, "to the same", same, same, step, api.OK)
		}
		for _, step := range [][]string{{row[0]}, {same.Root}, {nothing.Root}, row} {
			goes(t, "from nothing, by a step", nothing, same, step, api.ErrProof)
			goes(t, "to the same, by a step", same, same, step, api.ErrProof)
		}
		for _, step := range [][]string{{""}, {mixed(31)}, {row[0], mixed(33)}} {
			goes(t, "from nothing, by no sums", nothing, same, step, api.ErrArg)
			goes(t, "to the same, by no sums", same, same, step, api.ErrArg)
		}
		nothing.Root = row[3]
		want := api.ErrProof
		if n == 0 {
			want = api.ErrSplit
		}
		goes(t, "from nothing that has a root", nothing, same, nil, want)
		goes(t, "from nothing that has a root, to the same", nothing, nothing, nil, api.ErrProof)
	}
}

// P10.3: signatures are not looked at: who signed is for Check to tell.
func TestGoesOfAnySignature(t *testing.T) {
	t.Parallel()
	row := leaves(24)
	old, next := grown(row, 7, 5), grown(row, 22, 6)
	step := stepOf(t, row, 7, 22)
	for _, sig := range []string{zeros(64), strings.Repeat("\xff", 64), mixed(64), headOf(seeds(1)[0], 22, next.Root, 6).Sig} {
		for _, other := range []string{sig, mixed(64), zeros(64)} {
			old.Sig, next.Sig = sig, other
			goes(t, "any signatures", old, next, step, api.OK)
			goes(t, "any signatures", old, next, nil, api.ErrProof)
			goes(t, "any signatures, of the same", old, api.Head{Size: old.Size, Root: old.Root, Time: 9, Sig: other}, nil, api.OK)
			goes(t, "any signatures, back", next, old, step, api.ErrHead)
		}
	}
}
