package proof

import (
	"imprimatur/api"
	"imprimatur/tree"
)

// part is one of a tree that stands beside another one: on which side, and from which leaf to ahead of which.
type part struct {
	left     bool
	from, to int
}

// partsBeside are those beside what goes up to the root, from the part of 2^level leaves with a place in it. The place's bits from the level on are that part's number there: an odd one has the one ahead of it on its left side, an even one the one behind it on its right side; an even one that is the last has none, and is on the next level what it was.
func partsBeside(at, level, size int) []part {
	var parts []part
	last := size - 1
up:
	for ; ; level++ {
		here, end := at>>level, last>>level
		switch {
		case end == 0:
			break up
		case here%2 == 1:
			parts = append(parts, part{true, (here - 1) << level, here << level})
		case here < end:
			parts = append(parts, part{false, (here + 1) << level, min((here+2)<<level, size)})
		}
	}
	return parts
}

// rootsOf are the roots of parts.
func rootsOf(leaves []string, parts []part) []string {
	var roots []string
	for _, p := range parts {
		roots = append(roots, rootOf(leaves[p.from:p.to]))
	}
	return roots
}

// rootOf needs leaves that may be, so that there is no error to tell.
func rootOf(leaves []string) string {
	root, _ := tree.Root(leaves)
	return root
}

// halves are a sum and the one of the part beside it, the left one first.
func (p part) halves(sum, beside string) (left, right string) {
	if p.left {
		return beside, sum
	}
	return sum, beside
}

// way is what a path makes: the nodes' texts, from the lowest one up, and the root.
type way struct {
	texts []string
	root  string
}

// climb tells whether the path makes anything.
func climb(leaf string, at, size int, path []string) (way, bool) {
	parts := partsBeside(at, 0, size)
	if len(path) != len(parts) {
		return way{}, false
	}
	w := way{root: leaf}
	for i, p := range parts {
		left, right := p.halves(w.root, path[i])
		w.texts = append(w.texts, nodeMark+left+right)
		w.root = tree.Node(left, right)
	}
	return w, true
}

// unlike finds the topmost two that are unlike, in rows of as many texts. There are some, where unlike leaves came to one root: the lowest texts have these leaves in them.
func unlike(texts, others []string) (string, string, api.Errno) {
	for i := len(texts) - 1; i >= 0; i-- {
		if texts[i] != others[i] {
			return texts[i], others[i], api.OK
		}
	}
	return "", "", api.ErrNone
}
