package tree_test

import (
	"crypto/sha256"
	"encoding/hex"
	"slices"
	"strings"
	"testing"

	"imprimatur/api"
)

const most = 4096 // leaves of a tree

// summed is the library's sum of bytes.
func summed(s string) string {
	sum := sha256.Sum256([]byte(s))
	return string(sum[:])
}

// nodeOf is the chapter's sum of two.
func nodeOf(left, right string) string {
	return summed("\x01" + left + right)
}

// mixed are so many bytes of many values.
func mixed(n int) string {
	b := make([]byte, n)
	for i := range b {
		b[i] = byte(i*i/3 + 7*i + n)
	}
	return string(b)
}

// row is one of so many sums, no two of them alike; another kind of row has none of its sums.
func row(kind string, n int) []string {
	leaves := make([]string, n)
	for i := range leaves {
		leaves[i] = summed(kind + string([]byte{byte(i >> 8), byte(i)}))
	}
	return leaves
}

// paired is a row's root, reckoned from the leaves up: two beside each other are one, and a last one alone waits for the next turn.
func paired(leaves []string) string {
	if len(leaves) == 0 {
		return summed("")
	}
	level := slices.Clone(leaves)
	for len(level) > 1 {
		var next []string
		for i := 0; i+1 < len(level); i += 2 {
			next = append(next, nodeOf(level[i], level[i+1]))
		}
		if len(level)%2 == 1 {
			next = append(next, level[len(level)-1])
		}
		level = next
	}
	return level[0]
}

// halved is a row's root, reckoned as the chapter tells it.
func halved(leaves []string) string {
	switch len(leaves) {
	case 0:
		return summed("")
	case 1:
		return leaves[0]
	}
	k := 1
	for 2*k < len(leaves) {
		k *= 2
	}
	return nodeOf(halved(leaves[:k]), halved(leaves[k:]))
}

// grown is the tree of leaves: the roots of whole parts, the greatest power of 2 that there are leaves for, of what is left again.
func grown(leaves []string) api.Grow {
	g := api.Grow{N: len(leaves)}
	for rest := leaves; len(rest) > 0; {
		k := 1
		for 2*k <= len(rest) {
			k *= 2
		}
		g.Parts = append(g.Parts, paired(rest[:k]))
		rest = rest[k:]
	}
	return g
}

// alike tells whether two trees are of as many leaves, with the same parts; nil parts and empty ones are.
func alike(a, b api.Grow) bool {
	return a.N == b.N && slices.Equal(a.Parts, b.Parts)
}

// copied is a row in memory of its own, with room behind its length that holds sums of no row.
func copied(leaves []string, room int) []string {
	out := append(slices.Clone(leaves), row("room", room)...)
	return out[:len(leaves)]
}

// roomOf is what stands behind a row's length.
func roomOf(leaves []string) []string {
	return leaves[len(leaves):cap(leaves)]
}

func unhex(t *testing.T, s string) string {
	t.Helper()
	b, e := hex.DecodeString(s)
	if e != nil {
		t.Fatal(e)
	}
	return string(b)
}

// badLengths are those that no sum has.
func badLengths() []int {
	return []int{0, 1, 16, 31, 33, 63, 64, 65, 1000}
}

// spots are the first place, the last one, and one in the middle of so many.
func spots(n int) []int {
	return slices.Compact([]int{0, n / 2, n - 1})
}

// spoiled is a row with a sum of another length at a place.
func spoiled(leaves []string, at, length int) []string {
	out := slices.Clone(leaves)
	out[at] = strings.Repeat("s", length)
	return out
}

// counts are how many leaves the rows have that the tests go through.
func counts() []int {
	return []int{0, 1, 2, 3, 4, 5, 7, 8, 9, 15, 16, 17, 31, 32, 33, 63, 64, 65, 127, 128, 129, 1000, 2047, 2048, 2049, 4095, 4096}
}

// The reckonings agree with each other, so that the tests stand on more than one.
func TestReckoningsAgree(t *testing.T) {
	for n := range 200 {
		leaves := row("a", n)
		if paired(leaves) != halved(leaves) {
			t.Fatalf("root of %d leaves: %x, %x", n, paired(leaves), halved(leaves))
		}
	}
}
