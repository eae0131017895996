package sha256_test

import (
	library "crypto/sha256"
	"encoding"
	"encoding/binary"
	"hash"
	"testing"

	"imprimatur/api"
)

// The library's sum keeps its state behind a mark: the words, a block's bytes, and how many bytes there were.
const (
	stateMark = "sha\x03"
	stateSize = 4 + 8*4 + 64 + 8
)

// libraryAt is the library's sum in the state of one that may be.
func libraryAt(t testing.TB, x api.Sum256) hash.Hash {
	t.Helper()
	state := []byte(stateMark)
	for _, n := range x.H {
		state = binary.BigEndian.AppendUint32(state, n)
	}
	state = append(state, x.Buf...)
	state = append(state, make([]byte, 64-len(x.Buf))...)
	state = binary.BigEndian.AppendUint64(state, x.N)
	h := library.New()
	if err := h.(encoding.BinaryUnmarshaler).UnmarshalBinary(state); err != nil {
		t.Fatal(err)
	}
	return h
}

// stateOf is the library's state as a sum that goes on.
func stateOf(t testing.TB, h hash.Hash) api.Sum256 {
	t.Helper()
	state, err := h.(encoding.BinaryMarshaler).MarshalBinary()
	if err != nil || len(state) != stateSize || string(state[:4]) != stateMark {
		t.Fatalf("the library's state: %x, %v", state, err)
	}
	var x api.Sum256
	for i := range x.H {
		x.H[i] = binary.BigEndian.Uint32(state[4+4*i:])
	}
	x.N = binary.BigEndian.Uint64(state[stateSize-8:])
	x.Buf = string(state[36 : 36+x.N%64])
	return x
}

// written is what the library comes to behind some more bytes.
func written(t testing.TB, x api.Sum256, s string) api.Sum256 {
	t.Helper()
	h := libraryAt(t, x)
	h.Write([]byte(s))
	return stateOf(t, h)
}

// ended is the library's sum.
func ended(t testing.TB, x api.Sum256) string {
	t.Helper()
	return string(libraryAt(t, x).Sum(nil))
}

// summed is the library's sum of bytes.
func summed(s string) string {
	all := library.Sum256([]byte(s))
	return string(all[:])
}

// mixed are so many bytes, no block of which is like another.
func mixed(n int) string {
	b := make([]byte, n)
	for i := range b {
		b[i] = byte(i*i/7 + 31*i + i>>8)
	}
	return string(b)
}

// anyWords are rows of words that a sum that goes on may have.
func anyWords() [][8]uint32 {
	const all = ^uint32(0)
	return [][8]uint32{
		{},
		{0, 1, 2, 3, 4, 5, 6, 7},
		{all, all, all, all, all, all, all, all},
		{0x80000000, 0x7fffffff, 0xdeadbeef, 0, 1, all, 0x01234567, 0x89abcdef},
		{0x6a09e667, 0xbb67ae85, 0x3c6ef372, 0xa54ff53a, 0x510e527f, 0x9b05688c, 0x1f83d9ab, 0x5be0cd19},
	}
}

// edges are lengths about those where a block more is needed, or bytes fill one.
func edges() []int {
	return []int{0, 1, 2, 3, 4, 54, 55, 56, 57, 62, 63, 64, 65, 66, 118, 119, 120, 121, 127, 128, 129, 191, 192, 193, 1000, 4096}
}
