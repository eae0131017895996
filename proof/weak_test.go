package proof_test

import (
	"bytes"
	"fmt"
	"math/rand"
	"os"
	"os/exec"
	"path/filepath"
	"testing"

	"imprimatur/api"
	"imprimatur/proof"
	"imprimatur/tree"
)

// weakTree is a package tree whose nodes have one of three sums: no two unlike texts of one sum can be made of the true one, and without any, what Clash finds could not be looked at.
const weakTree = `package tree

import "imprimatur/api"

func few(s string) string {
	n := 0
	for _, b := range []byte(s) {
		n = (n*31 + int(b) + 7) % 251
	}
	sum := make([]byte, 32)
	sum[31] = byte(n % 3)
	return string(sum)
}

func Leaf(data string) string         { return few("\x00" + data) }
func Node(left, right string) string { return few("\x01" + left + right) }

func Right(leaves []string) bool {
	for _, leaf := range leaves {
		if len(leaf) != 32 {
			return false
		}
	}
	return len(leaves) <= api.MaxLeaves
}

func Root(leaves []string) (string, api.Errno) {
	if !Right(leaves) {
		return "", api.ErrArg
	}
	switch len(leaves) {
	case 0:
		return few(""), api.OK
	case 1:
		return leaves[0], api.OK
	}
	k := 1
	for 2*k < len(leaves) {
		k *= 2
	}
	left, _ := Root(leaves[:k])
	right, _ := Root(leaves[k:])
	return Node(left, right), api.OK
}

func Add(g api.Grow, leaves ...string) (api.Grow, api.Errno) { return api.Grow{}, api.ErrArg }
func Sum(g api.Grow) (string, api.Errno)                     { return "", api.ErrArg }
`

// weakSums names what is set in the module where tree's sums are weak.
const weakSums = "IMPRIMATUR_WEAK_SUMS"

func writeFile(t *testing.T, path string, data []byte) {
	t.Helper()
	if e := os.MkdirAll(filepath.Dir(path), 0o755); e != nil {
		t.Fatal(e)
	}
	if e := os.WriteFile(path, data, 0o644); e != nil {
		t.Fatal(e)
	}
}

// weakModule is a throw-away copy of the module's api and proof, with the weak tree.
func weakModule(t *testing.T) string {
	t.Helper()
	dir := t.TempDir()
	for _, pattern := range []string{"go.mod", "api/*.go", "proof/*.go"} {
		files, e := filepath.Glob(filepath.Join("..", pattern))
		if e != nil || len(files) == 0 {
			t.Fatal(pattern, e)
		}
		for _, file := range files {
			data, e := os.ReadFile(file)
			if e != nil {
				t.Fatal(e)
			}
			writeFile(t, filepath.Join(dir, file[len("../"):]), data)
		}
	}
	writeFile(t, filepath.Join(dir, "tree", "tree.go"), []byte(weakTree))
	return dir
}

// P9.3, P9.4: what Clash finds where sums are weak: TestWeakClash, in a module of such.
func TestClashFinds(t *testing.T) {
	if os.Getenv(weakSums) != "" {
		t.Skip("this is the module of weak sums")
	}
	run := exec.Command("go", "test", "-count=1", "-timeout=2m", "-v", "-run", "^TestWeakClash$", "./proof")
	run.Dir = weakModule(t)
	run.Env = append(os.Environ(), weakSums+"=yes", "GOPROXY=off", "GOWORK=off", "PWD="+run.Dir)
	out, e := run.CombinedOutput()
	if e != nil || !bytes.Contains(out, []byte("--- PASS: TestWeakClash")) {
		t.Fatalf("%v\n%s", e, out)
	}
}

// textsDown are the texts of the nodes that a path makes, the topmost one first, and what it makes, in the chapter's words; of a path that makes something.
func textsDown(leaf string, at, n int, path []string) (texts []string, made string) {
	if n == 1 {
		return nil, leaf
	}
	last, others, k := path[len(path)-1], path[:len(path)-1], kOf(n)
	left, right := "", last
	if at < k {
		texts, left = textsDown(leaf, at, k, others)
	} else {
		texts, right = textsDown(leaf, at-k, n-k, others)
		left = last
	}
	return append([]string{"\x01" + left + right}, texts...), tree.Node(left, right)
}

// found is what Clash must answer, in the chapter's words, of arguments that may be and paths that make something, and at which depth it is found.
func (c clash) found() (one, other string, depth int, e api.Errno) {
	texts, made := textsDown(c.a, c.at, c.size, c.first)
	others, also := textsDown(c.b, c.at, c.size, c.second)
	if c.a == c.b || made != also {
		return "", "", 0, api.ErrNone
	}
	for i, text := range texts {
		if text != others[i] {
			return text, others[i], i, api.OK
		}
	}
	return "", "", 0, api.ErrNone
}

// weakRow is one of so many sums, of which few are unlike.
func weakRow(r *rand.Rand, n int) []string {
	out := make([]string, n)
	for i := range out {
		out[i] = tree.Leaf(fmt.Sprint(r.Intn(1000)))
	}
	return out
}

// finds holds that Clash answers what the chapter tells, and adds to what was found at each depth, or not.
func (c clash) finds(t *testing.T, found map[int]int, none *int) {
	t.Helper()
	one, other, e := proof.Clash(c.a, c.b, c.at, c.size, c.first, c.second)
	wantOne, wantOther, depth, want := c.found()
	if one != wantOne || other != wantOther || e != want {
		t.Fatalf("at %d of %d: %x, %x, %d, not %x, %x, %d", c.at, c.size, one, other, e, wantOne, wantOther, want)
	}
	if e != api.OK {
		*none++
		return
	}
	found[depth]++
	if one == other || len(one) != 65 || len(other) != 65 || one[0] != 1 || other[0] != 1 || tree.Node(one[1:33], one[33:]) != tree.Node(other[1:33], other[33:]) {
		t.Fatalf("at %d of %d: %x and %x are no unlike texts of one sum", c.at, c.size, one, other)
	}
}

// TestWeakClash is for the module of weak sums alone.
func TestWeakClash(t *testing.T) {
	if os.Getenv(weakSums) == "" {
		t.Skip("sums are not weak here")
	}
	r := rand.New(rand.NewSource(9))
	found, none := map[int]int{}, 0
	for range 40000 {
		size := 1 + r.Intn(20)
		if r.Intn(100) == 0 {
			size = 1 + r.Intn(most)
		}
		at := r.Intn(size)
		n := len(pathUp(make([]string, size), at))
		c := clash{weakRow(r, 1)[0], weakRow(r, 1)[0], at, size, weakRow(r, n), weakRow(r, n)}
		// Where most of both paths is the same, the unlike texts are far down.
		if r.Intn(2) == 0 {
			same := r.Intn(n + 1)
			copy(c.second[same:], c.first[same:])
		}
		c.finds(t, found, &none)
	}
	for depth := range 6 {
		if found[depth] == 0 {
			t.Errorf("nothing was found at depth %d", depth)
		}
	}
	if none == 0 {
		t.Error("there was always something to find")
	}
	weakRows(t, r)
}

// weakRows holds P9.4: where the paths of two rows of one root show unlike leaves' sums at a place, Clash finds two unlike texts of one sum.
func weakRows(t *testing.T, r *rand.Rand) {
	t.Helper()
	found, none := map[int]int{}, 0
	for range 4000 {
		n := 2 + r.Intn(12)
		leaves, others := weakRow(r, n), weakRow(r, n)
		root, _ := tree.Root(leaves)
		if also, _ := tree.Root(others); also != root {
			continue
		}
		for at := range n {
			first, e := proof.Path(leaves, at)
			second, f := proof.Path(others, at)
			if e != api.OK || f != api.OK || proof.Holds(leaves[at], at, n, first, root) != api.OK || proof.Holds(others[at], at, n, second, root) != api.OK {
				t.Fatalf("the paths of %d of %d: %d, %d", at, n, e, f)
			}
			before := none
			clash{leaves[at], others[at], at, n, first, second}.finds(t, found, &none)
			if (none > before) != (leaves[at] == others[at]) {
				t.Fatalf("at %d of %d: leaves %x and %x, and Clash finds otherwise", at, n, leaves[at], others[at])
			}
		}
	}
	if len(found) == 0 || none == 0 {
		t.Errorf("found at depths %v, not found %d times", found, none)
	}
}
