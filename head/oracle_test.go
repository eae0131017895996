package head_test

import (
	"crypto/ed25519"
	"crypto/sha256"
	"encoding/binary"
	"encoding/hex"
	"math/big"
	"slices"
	"strings"
	"testing"

	"imprimatur/api"
)

const (
	most     = 4096    // leaves of a tree
	latest   = 1 << 40 // time
	least    = -1 << 63
	greatest = 1<<63 - 1
)

// edge is a value of one of a head's parts, and whether it may be.
type edge[T any] struct {
	value T
	may   bool
}

func edges[T any](may bool, values ...T) []edge[T] {
	var list []edge[T]
	for _, v := range values {
		list = append(list, edge[T]{v, may})
	}
	return list
}

func sizes() []edge[int] {
	return append(edges(true, 0, 1, 4095, 4096), edges(false, -1, 4097, least, greatest, -4096, 1<<16, 1<<32, 1<<32+1, least+1)...)
}

func times() []edge[int] {
	return append(edges(true, 0, latest-1, latest), edges(false, -1, latest+1, least, greatest, -latest, 1<<41, 1<<62, least+1)...)
}

func roots() []edge[string] {
	return append(edges(true, mixed(32), zeros(32), strings.Repeat("\xff", 32)), edges(false, "", mixed(31), mixed(33), mixed(64))...)
}

func sigs() []edge[string] {
	return append(edges(true, mixed(64), zeros(64)), edges(false, "", mixed(32), mixed(63), mixed(65))...)
}

// eachHead goes through all heads of parts at their edges: each alone, two together, and all.
func eachHead(look func(h api.Head, may bool)) {
	for _, size := range sizes() {
		for _, time := range times() {
			for _, root := range roots() {
				for _, sig := range sigs() {
					look(api.Head{Size: size.value, Root: root.value, Time: time.value, Sig: sig.value}, size.may && time.may && root.may && sig.may)
				}
			}
		}
	}
}

// wrong are heads that may not be, with one part or two of h at an edge.
func wrong(h api.Head) []api.Head {
	size, time, root, sig := parted(h)
	var single []func(*api.Head)
	single = append(single, size...)
	single = append(single, time...)
	single = append(single, root...)
	single = append(single, sig...)
	var list []api.Head
	for i, one := range single {
		for _, other := range single[i:] {
			bad := h
			one(&bad)
			other(&bad)
			list = append(list, bad)
		}
	}
	return list
}

// parted are what makes a head one that may not be, by each of its parts.
func parted(h api.Head) (size, time, root, sig []func(*api.Head)) {
	for _, n := range []int{-1, 4097, least, greatest} {
		size = append(size, func(h *api.Head) { h.Size = n })
	}
	for _, n := range []int{-1, latest + 1, least, greatest} {
		time = append(time, func(h *api.Head) { h.Time = n })
	}
	for _, s := range []string{"", h.Root[:31], h.Root + "\x00", h.Root + h.Root} {
		root = append(root, func(h *api.Head) { h.Root = s })
	}
	for _, s := range []string{"", h.Sig[:32], h.Sig[:63], h.Sig + "\x00"} {
		sig = append(sig, func(h *api.Head) { h.Sig = s })
	}
	return size, time, root, sig
}

// inBytes are the 8 of a number, laid without the program's own calls.
func inBytes(n uint64) string {
	return string(binary.BigEndian.AppendUint64(nil, n))
}

// framed is a part behind its length in 4 bytes.
func framed(part string) string {
	return string(binary.BigEndian.AppendUint32(nil, uint32(len(part)))) + part
}

// row is of each part its frame, one behind the other.
func row(parts ...string) string {
	var out strings.Builder
	for _, p := range parts {
		out.WriteString(framed(p))
	}
	return out.String()
}

// said is what is signed of a head.
func said(h api.Head) string {
	return row("head", inBytes(uint64(h.Size)), inBytes(uint64(h.Time)), h.Root)
}

func textOf(h api.Head) string {
	return row(said(h), h.Sig)
}

// Where in a head's text its parts begin.
const (
	atMark = 8
	atSize = 16
	atTime = 28
	atRoot = 40
	atSig  = 76
	whole  = 140 // bytes of a head's text
)

// lengths are where in a head's text the lengths begin, and what they are.
func lengths() map[int]string {
	return map[int]string{
		0:          "\x00\x00\x00\x44",
		atMark - 4: "\x00\x00\x00\x04",
		atSize - 4: "\x00\x00\x00\x08",
		atTime - 4: "\x00\x00\x00\x08",
		atRoot - 4: "\x00\x00\x00\x20",
		atSig - 4:  "\x00\x00\x00\x40",
	}
}

// told is what a text tells, by the places at which a head's parts stand in it.
func told(s string) (api.Head, api.Errno) {
	if len(s) != whole || s[atMark:atMark+4] != "head" {
		return api.Head{}, api.ErrHead
	}
	for at, length := range lengths() {
		if s[at:at+4] != length {
			return api.Head{}, api.ErrHead
		}
	}
	size, time := new(big.Int).SetBytes([]byte(s[atSize:atSize+8])), new(big.Int).SetBytes([]byte(s[atTime:atTime+8]))
	if size.Cmp(big.NewInt(most)) > 0 || time.Cmp(big.NewInt(latest)) > 0 {
		return api.Head{}, api.ErrHead
	}
	return api.Head{Size: int(size.Int64()), Root: s[atRoot : atRoot+32], Time: int(time.Int64()), Sig: s[atSig:]}, api.OK
}

// libraryKey is the library's of a seed: the seed, and the key behind it.
func libraryKey(seed string) ed25519.PrivateKey {
	return ed25519.NewKeyFromSeed([]byte(seed))
}

func keyOf(seed string) string {
	return string(libraryKey(seed)[32:])
}

func signed(seed, message string) string {
	return string(ed25519.Sign(libraryKey(seed), []byte(message)))
}

// headOf is a head that the library signs, also where it may not be.
func headOf(seed string, size int, root string, time int) api.Head {
	h := api.Head{Size: size, Root: root, Time: time}
	h.Sig = signed(seed, said(h))
	return h
}

// summed is the library's sum of bytes.
func summed(s string) string {
	sum := sha256.Sum256([]byte(s))
	return string(sum[:])
}

// leaves are so many sums, no two of them alike.
func leaves(n int) []string {
	out := make([]string, n)
	for i := range out {
		out[i] = summed("\x00" + inBytes(uint64(i)))
	}
	return out
}

// rootOf is a row's root, as the chapter of trees tells it.
func rootOf(row []string) string {
	switch len(row) {
	case 0:
		return summed("")
	case 1:
		return row[0]
	}
	k := 1
	for 2*k < len(row) {
		k *= 2
	}
	return summed("\x01" + rootOf(row[:k]) + rootOf(row[k:]))
}

func unhex(s string) string {
	b, err := hex.DecodeString(s)
	if err != nil {
		panic(err)
	}
	return string(b)
}

func zeros(n int) string {
	return strings.Repeat("\x00", n)
}

// mixed are so many bytes, of all kinds.
func mixed(n int) string {
	b := make([]byte, n)
	for i := range b {
		b[i] = byte(i*i/7 + 31*i + n)
	}
	return string(b)
}

// seeds are so many of 32 bytes, no two of them alike.
func seeds(n int) []string {
	list := make([]string, n)
	for i := range list {
		list[i] = summed("seed" + inBytes(uint64(i)))
	}
	return list
}

// turned is s with one bit another one.
func turned(s string, bit int) string {
	b := []byte(s)
	b[bit/8] ^= 1 << (bit % 8)
	return string(b)
}

// copied is a list with room behind its length, in which something stands.
func copied(list []string, room int) []string {
	out := slices.Clone(list)
	for range room {
		out = append(out, "behind")
	}
	return out[:len(list)]
}

// allOf is a list with what stands behind its length.
func allOf(list []string) []string {
	return slices.Clone(list[:cap(list)])
}

// The words of this file lead where the chapter says: the places in a text are those of the parts that are put together.
func TestOracle(t *testing.T) {
	t.Parallel()
	may, mayNot := 0, 0
	eachHead(func(h api.Head, is bool) {
		if !is {
			mayNot++
			return
		}
		may++
		if got, e := told(textOf(h)); got != h || e != api.OK {
			t.Errorf("%v is told as %v, %d", h, got, e)
		}
	})
	if may != 4*3*3*2 || mayNot != 13*11*7*6-may {
		t.Errorf("%d heads may be, %d may not", may, mayNot)
	}
	seed := seeds(1)[0]
	if !ed25519.Verify([]byte(keyOf(seed)), []byte("a"), []byte(signed(seed, "a"))) {
		t.Error("the library's signature is not right")
	}
}
