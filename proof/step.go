package proof

import (
	"math/bits"

	"imprimatur/tree"
)

// lastWhole is the level of the last whole part of the first leaves, of 1 or more, and whether that is all of them.
func lastWhole(first int) (level int, all bool) {
	level = bits.TrailingZeros(uint(first))
	return level, first == 1<<level
}

// stepFrom is the step from the first leaves, of 1 or more but not all. It goes up from their last whole part, whose root must be told where the old root is not just that.
func stepFrom(first int, leaves []string) []string {
	var step []string
	level, all := lastWhole(first)
	if !all {
		step = append(step, rootOf(leaves[first-1<<level:first]))
	}
	return append(step, rootsOf(leaves, partsBeside(first-1, level, len(leaves)))...)
}

// leads tells whether a step leads from the old root, of the first leaves, to the root of all.
func leads(first, size int, old, root string, step []string) bool {
	switch first {
	case 0:
		return len(step) == 0 && old == rootOf(nil)
	case size:
		return len(step) == 0 && old == root
	}
	was, is, ok := stepMakes(first, size, old, step)
	return ok && was == old && is == root
}

// stepMakes is the old and the new root that a step makes, from the first leaves, of 1 or more but not all. What stands on the left side was there ahead of them; what stands on the right side is new.
func stepMakes(first, size int, old string, step []string) (was, is string, ok bool) {
	level, all := lastWhole(first)
	begin, rest := old, step
	if !all {
		if len(step) == 0 {
			return "", "", false
		}
		begin, rest = step[0], step[1:]
	}
	parts := partsBeside(first-1, level, size)
	if len(rest) != len(parts) {
		return "", "", false
	}
	was, is = begin, begin
	for i, p := range parts {
		if p.left {
			was = tree.Node(rest[i], was)
		}
		is = tree.Node(p.halves(is, rest[i]))
	}
	return was, is, true
}
