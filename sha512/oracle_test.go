package sha512_test

import (
	library "crypto/sha512"
	"encoding"
	"encoding/binary"
	"hash"
	"testing"

	"imprimatur/api"
	"imprimatur/sha512"
)

// The library's sum keeps its state behind a mark: the words, a block's bytes, and how many bytes there were.
const (
	stateMark = "sha\x07"
	stateSize = 4 + 8*8 + 128 + 8
)

// libraryAt is the library's sum in the state of one that may be.
func libraryAt(t testing.TB, x api.Sum512) hash.Hash {
	t.Helper()
	state := []byte(stateMark)
	for _, n := range x.H {
		state = binary.BigEndian.AppendUint64(state, n)
	}
	state = append(state, x.Buf...)
	state = append(state, make([]byte, 128-len(x.Buf))...)
	state = binary.BigEndian.AppendUint64(state, x.N)
	h := library.New()
	if err := h.(encoding.BinaryUnmarshaler).UnmarshalBinary(state); err != nil {
		t.Fatal(err)
	}
	return h
}

// stateOf is the library's state as a sum that goes on.
func stateOf(t testing.TB, h hash.Hash) api.Sum512 {
	t.Helper()
	state, err := h.(encoding.BinaryMarshaler).MarshalBinary()
	if err != nil || len(state) != stateSize || string(state[:4]) != stateMark {
		t.Fatalf("the library's state: %x, %v", state, err)
	}
	var x api.Sum512
	for i := range x.H {
		x.H[i] = binary.BigEndian.Uint64(state[4+8*i:])
	}
	x.N = binary.BigEndian.Uint64(state[stateSize-8:])
	x.Buf = string(state[68 : 68+x.N%128])
	return x
}

// written is what the library comes to behind some more bytes.
func written(t testing.TB, x api.Sum512, s string) api.Sum512 {
	t.Helper()
	h := libraryAt(t, x)
	h.Write([]byte(s))
	return stateOf(t, h)
}

// ended is the library's sum.
func ended(t testing.TB, x api.Sum512) string {
	t.Helper()
	return string(libraryAt(t, x).Sum(nil))
}

// summed is the library's sum of bytes.
func summed(s string) string {
	all := library.Sum512([]byte(s))
	return string(all[:])
}

// mixed are so many bytes, no block of which is like another.
func mixed(n int) string {
	b := make([]byte, n)
	for i := range b {
		b[i] = byte(i*i/7 + 31*i + i>>8)
	}
	return string(b)
}

// anyWords are rows of words that a sum that goes on may have.
func anyWords() [][8]uint64 {
	const all = ^uint64(0)
	return [][8]uint64{
		{},
		{0, 1, 2, 3, 4, 5, 6, 7},
		{all, all, all, all, all, all, all, all},
		{1 << 63, 1<<63 - 1, 0xdeadbeef, 0xdeadbeef << 32, 1, all, 0x0123456789abcdef, 0xfedcba9876543210},
		sha512.New().H,
	}
}

// edges are lengths about those where a block more is needed, or bytes fill one.
func edges() []int {
	return []int{0, 1, 2, 7, 8, 63, 64, 110, 111, 112, 113, 126, 127, 128, 129, 130, 238, 239, 240, 241, 255, 256, 257, 383, 384, 385, 1000, 4096}
}
