package tree

import (
	"math/bits"

	"imprimatur/api"
	"imprimatur/sha256"
)

// Add goes on with leaves' sums.
func Add(g api.Grow, leaves ...string) (api.Grow, api.Errno) {
	w := work{g}
	if !w.right() || !Right(leaves) {
		return api.Grow{}, api.ErrArg
	}
	if w.N+len(leaves) > api.MaxLeaves {
		return api.Grow{}, api.ErrMany
	}
	w.apart()
	for _, leaf := range leaves {
		w.take(leaf)
	}
	return w.Grow, api.OK
}

// Sum is the root of all leaves that were added.
func Sum(g api.Grow) (string, api.Errno) {
	w := work{g}
	if !w.right() {
		return "", api.ErrArg
	}
	return w.root(), api.OK
}

// work is a tree that leaves come to.
type work struct {
	api.Grow
}

// right tells whether the tree may be: each bit of N that is 1 stands for a part of as many leaves.
func (w *work) right() bool {
	return w.N >= 0 && w.N <= api.MaxLeaves && len(w.Parts) == bits.OnesCount(uint(w.N)) && Right(w.Parts)
}

// apart cuts the parts with their capacity, so that the work has them in new memory, and the tree that was handed in may go on another way.
func (w *work) apart() {
	w.Parts = append(w.Parts[:0:0], w.Parts...)
}

// take puts a leaf behind all parts. Each bit of N that is 1 and has no 0 below it is a part that has just as many leaves as what has come behind it by then.
func (w *work) take(leaf string) {
	sum, kept := leaf, len(w.Parts)
	for n := w.N; n%2 == 1; n /= 2 {
		kept--
		sum = Node(w.Parts[kept], sum)
	}
	w.Parts = append(w.Parts[:kept], sum)
	w.N++
}

// root makes one of all parts, from the last one on.
func (w *work) root() string {
	if w.N == 0 {
		return sha256.Sum()
	}
	last := len(w.Parts) - 1
	sum := w.Parts[last]
	for i := last - 1; i >= 0; i-- {
		sum = Node(w.Parts[i], sum)
	}
	return sum
}
