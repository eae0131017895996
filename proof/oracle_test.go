package proof_test

import (
	"crypto/sha256"
	"encoding/hex"
	"slices"
	"strings"
	"testing"

	"imprimatur/api"
)

const (
	most     = 4096 // leaves of a tree
	least    = -1 << 63
	greatest = 1<<63 - 1
)

// summed is the library's sum of bytes.
func summed(s string) string {
	sum := sha256.Sum256([]byte(s))
	return string(sum[:])
}

// nodeOf is the sum of two.
func nodeOf(left, right string) string {
	return summed("\x01" + left + right)
}

// row is one of so many sums, no two of them alike; another kind of row has none of its sums.
func row(kind string, n int) []string {
	leaves := make([]string, n)
	for i := range leaves {
		leaves[i] = summed(kind + string([]byte{byte(i >> 8), byte(i)}))
	}
	return leaves
}

// kOf is the greatest power of 2 below n, of n above 1.
func kOf(n int) int {
	k := 1
	for 2*k < n {
		k *= 2
	}
	return k
}

// rootOf is a row's root, as the chapter of trees tells it.
func rootOf(leaves []string) string {
	switch len(leaves) {
	case 0:
		return summed("")
	case 1:
		return leaves[0]
	}
	k := kOf(len(leaves))
	return nodeOf(rootOf(leaves[:k]), rootOf(leaves[k:]))
}

// pathOf is the path of the leaf at a place, from the root down, in the chapter's words.
func pathOf(leaves []string, at int) []string {
	if len(leaves) == 1 {
		return nil
	}
	k := kOf(len(leaves))
	if at < k {
		return append(pathOf(leaves[:k], at), rootOf(leaves[k:]))
	}
	return append(pathOf(leaves[k:], at-k), rootOf(leaves[:k]))
}

// stepOf is the step from the first m, from the root down, in the chapter's words.
func stepOf(leaves []string, m int) []string {
	if m == 0 {
		return nil
	}
	return stepDown(leaves, m, true)
}

func stepDown(leaves []string, m int, all bool) []string {
	switch {
	case m == len(leaves) && all:
		return nil
	case m == len(leaves):
		return []string{rootOf(leaves)}
	}
	k := kOf(len(leaves))
	if m <= k {
		return append(stepDown(leaves[:k], m, all), rootOf(leaves[k:]))
	}
	return append(stepDown(leaves[k:], m-k, false), rootOf(leaves[:k]))
}

// paired is the next level above one: two beside each other are one, and a last one alone is what it was.
func paired(level []string) []string {
	var next []string
	for i := 0; i+1 < len(level); i += 2 {
		next = append(next, nodeOf(level[i], level[i+1]))
	}
	if len(level)%2 == 1 {
		next = append(next, level[len(level)-1])
	}
	return next
}

// pathUp is a path by another reckoning: level by level from the leaves up, what stands beside.
func pathUp(level []string, at int) []string {
	var path []string
	for ; len(level) > 1; level, at = paired(level), at/2 {
		if beside := at ^ 1; beside < len(level) {
			path = append(path, level[beside])
		}
	}
	return path
}

// stepUp is a step by another reckoning: up from the last of the first m as long as nothing new comes to it, and from there as a path.
func stepUp(level []string, m int) []string {
	if m == 0 || m == len(level) {
		return nil
	}
	at := m - 1
	for ; at%2 == 1; at /= 2 {
		level = paired(level)
	}
	if at == 0 {
		return pathUp(level, at)
	}
	return append([]string{level[at]}, pathUp(level, at)...)
}

// pathMakes is what a path makes, from the root down, in the chapter's words.
func pathMakes(leaf string, at, n int, path []string) (string, bool) {
	if n == 1 || len(path) == 0 {
		return leaf, n == 1 && len(path) == 0
	}
	last, others, k := path[len(path)-1], path[:len(path)-1], kOf(n)
	if at < k {
		sum, ok := pathMakes(leaf, at, k, others)
		return nodeOf(sum, last), ok
	}
	sum, ok := pathMakes(leaf, at-k, n-k, others)
	return nodeOf(last, sum), ok
}

// stepMakes is what a step makes, from the root down, in the chapter's words, of m above 0.
func stepMakes(old string, m, n int, all bool, step []string) (was, is string, ok bool) {
	switch {
	case m == n && all:
		return old, old, len(step) == 0
	case len(step) == 0:
		return "", "", false
	case m == n:
		return step[0], step[0], len(step) == 1
	}
	last, others, k := step[len(step)-1], step[:len(step)-1], kOf(n)
	if m <= k {
		was, is, ok = stepMakes(old, m, k, all, others)
		return was, nodeOf(is, last), ok
	}
	was, is, ok = stepMakes(old, m-k, n-k, false, others)
	return nodeOf(last, was), nodeOf(last, is), ok
}

// shown is what Holds is asked.
type shown struct {
	leaf     string
	at, size int
	path     []string
	root     string
}

// shownOf is what a leaf of a row is shown by.
func shownOf(leaves []string, at int) shown {
	return shown{leaves[at], at, len(leaves), pathOf(leaves, at), rootOf(leaves)}
}

// want is what Holds must answer, in the chapter's words.
func (s shown) want() api.Errno {
	if s.at < 0 || s.at >= s.size || s.size > most || len(s.leaf) != 32 || len(s.root) != 32 || !allSums(s.path) {
		return api.ErrArg
	}
	if made, ok := pathMakes(s.leaf, s.at, s.size, s.path); !ok || made != s.root {
		return api.ErrProof
	}
	return api.OK
}

// climbs tells whether a path leads to the root by the steps of RFC 9162 (2.1.3.2), of arguments that may be.
func (s shown) climbs() bool {
	fn, sn, r := s.at, s.size-1, s.leaf
	for _, p := range s.path {
		if sn == 0 {
			return false
		}
		if fn%2 == 1 || fn == sn {
			r = nodeOf(p, r)
			for fn%2 == 0 && fn != 0 {
				fn, sn = fn/2, sn/2
			}
		} else {
			r = nodeOf(r, p)
		}
		fn, sn = fn/2, sn/2
	}
	return sn == 0 && r == s.root
}

// gone is what Follows is asked.
type gone struct {
	first, size int
	old, root   string
	step        []string
}

// goneOf is what shows that a row goes on from its first ones.
func goneOf(leaves []string, first int) gone {
	return gone{first, len(leaves), rootOf(leaves[:first]), rootOf(leaves), stepOf(leaves, first)}
}

// want is what Follows must answer, in the chapter's words.
func (g gone) want() api.Errno {
	if g.first < 0 || g.first > g.size || g.size > most || len(g.old) != 32 || len(g.root) != 32 || !allSums(g.step) {
		return api.ErrArg
	}
	if g.first == 0 {
		if len(g.step) == 0 && g.old == summed("") {
			return api.OK
		}
		return api.ErrProof
	}
	if was, is, ok := stepMakes(g.old, g.first, g.size, true, g.step); !ok || was != g.old || is != g.root {
		return api.ErrProof
	}
	return api.OK
}

// climbs tells whether a step leads to the root by the steps of RFC 9162 (2.1.4.2), of arguments that may be, with first above 0 and below size.
func (g gone) climbs() bool {
	path := g.step
	if len(path) == 0 {
		return false
	}
	if g.first&(g.first-1) == 0 {
		path = append([]string{g.old}, path...)
	}
	fn, sn := g.first-1, g.size-1
	for fn%2 == 1 {
		fn, sn = fn/2, sn/2
	}
	fr, sr := path[0], path[0]
	for _, c := range path[1:] {
		if sn == 0 {
			return false
		}
		if fn%2 == 1 || fn == sn {
			fr, sr = nodeOf(c, fr), nodeOf(c, sr)
			for fn%2 == 0 && fn != 0 {
				fn, sn = fn/2, sn/2
			}
		} else {
			sr = nodeOf(sr, c)
		}
		fn, sn = fn/2, sn/2
	}
	return fr == g.old && sr == g.root && sn == 0
}

// clash is what Clash is asked.
type clash struct {
	a, b          string
	at, size      int
	first, second []string
}

// want is the error that Clash must answer, in the chapter's words, where no two unlike texts have one sum.
func (c clash) want() api.Errno {
	if c.at < 0 || c.at >= c.size || c.size > most || !allSums([]string{c.a, c.b}) || !allSums(c.first) || !allSums(c.second) {
		return api.ErrArg
	}
	return api.ErrNone
}

func allSums(sums []string) bool {
	return !slices.ContainsFunc(sums, func(s string) bool { return len(s) != 32 })
}

// copied is a row in memory of its own, with room behind its length that holds sums of no row.
func copied(sums []string, room int) []string {
	out := append(slices.Clone(sums), row("room", room)...)
	return out[:len(sums)]
}

// whole is all that a row's memory holds, also behind its length.
func whole(sums []string) []string {
	return slices.Clone(sums[:cap(sums)])
}

func unhex(t *testing.T, s string) string {
	t.Helper()
	b, e := hex.DecodeString(s)
	if e != nil {
		t.Fatal(e)
	}
	return string(b)
}

// badLengths are those that no sum has.
func badLengths() []int {
	return []int{0, 1, 16, 31, 33, 63, 64, 65, 1000}
}

// spots are the first place, one in the middle and the last one of so many.
func spots(n int) []int {
	if n == 0 {
		return nil
	}
	return slices.Compact([]int{0, n / 2, n - 1})
}

// changed is a row with another text at a place.
func changed(sums []string, at int, s string) []string {
	out := slices.Clone(sums)
	out[at] = s
	return out
}

// spoiled is a row with a sum of another length at a place.
func spoiled(sums []string, at, length int) []string {
	return changed(sums, at, strings.Repeat("s", length))
}

// turned is a sum with one bit turned.
func turned(s string, bit int) string {
	b := []byte(s)
	b[bit/8] ^= 1 << (bit % 8)
	return string(b)
}

// counts are how many leaves the greater rows have.
func counts() []int {
	return []int{0, 1, 2, 3, 4, 5, 7, 8, 9, 63, 64, 65, 127, 128, 129, 1000, 2047, 2048, 2049, 4095, 4096}
}

// firsts are places and numbers of first ones at the edges of a row of n: -1, 0, 1, 2, 3, all, one less and one more, the powers of 2 with one less and one more, the least and the greatest.
func firsts(n int) []int {
	out := []int{least, -1, 0, 1, 2, 3, n/2 + 1, n - 2, n - 1, n, n + 1, greatest}
	for k := 1; k <= n; k *= 2 {
		out = append(out, k-1, k, k+1)
	}
	slices.Sort(out)
	return slices.Compact(out)
}

// The reckonings agree with each other, so that the tests stand on more than one.
func TestReckoningsAgree(t *testing.T) {
	all := row("a", 70)
	for n := range 71 {
		leaves := all[:n]
		for at := range n {
			s := shownOf(leaves, at)
			if !slices.Equal(s.path, pathUp(leaves, at)) || s.want() != api.OK || !s.climbs() {
				t.Fatalf("leaf %d of %d: %x, %x, %d, %v", at, n, s.path, pathUp(leaves, at), s.want(), s.climbs())
			}
		}
		for first := range n + 1 {
			g := goneOf(leaves, first)
			if !slices.Equal(g.step, stepUp(leaves, first)) || g.want() != api.OK || first > 0 && first < n && !g.climbs() {
				t.Fatalf("first %d of %d: %x, %x, %d, %v", first, n, g.step, stepUp(leaves, first), g.want(), g.climbs())
			}
		}
	}
}
