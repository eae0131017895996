package sha256

import (
	"math/bits"

	"imprimatur/api"
)

const (
	blockSize = 64 // bytes of a block
	wordSize  = 4  // bytes of a word
	firstRead = 16 // words that are read from a block
	rounds    = 64
)

// squareRoots are the first 32 bits of the fractions of the first primes' square roots: the words of a sum of nothing.
var squareRoots = [8]uint32{
	0x6a09e667, 0xbb67ae85, 0x3c6ef372, 0xa54ff53a, 0x510e527f, 0x9b05688c, 0x1f83d9ab, 0x5be0cd19,
}

// cubeRoots are those of the cube roots: a word of each round.
var cubeRoots = [rounds]uint32{
	0x428a2f98, 0x71374491, 0xb5c0fbcf, 0xe9b5dba5, 0x3956c25b, 0x59f111f1, 0x923f82a4, 0xab1c5ed5,
	0xd807aa98, 0x12835b01, 0x243185be, 0x550c7dc3, 0x72be5d74, 0x80deb1fe, 0x9bdc06a7, 0xc19bf174,
	0xe49b69c1, 0xefbe4786, 0x0fc19dc6, 0x240ca1cc, 0x2de92c6f, 0x4a7484aa, 0x5cb0a9dc, 0x76f988da,
	0x983e5152, 0xa831c66d, 0xb00327c8, 0xbf597fc7, 0xc6e00bf3, 0xd5a79147, 0x06ca6351, 0x14292967,
	0x27b70a85, 0x2e1b2138, 0x4d2c6dfc, 0x53380d13, 0x650a7354, 0x766a0abb, 0x81c2c92e, 0x92722c85,
	0xa2bfe8a1, 0xa81a664b, 0xc24b8b70, 0xc76c51a3, 0xd192e819, 0xd6990624, 0xf40e3585, 0x106aa070,
	0x19a4c116, 0x1e376c08, 0x2748774c, 0x34b0bcb5, 0x391c0cb3, 0x4ed8aa4a, 0x5b9cca4f, 0x682e6ff3,
	0x748f82ee, 0x78a5636f, 0x84c87814, 0x8cc70208, 0x90befffa, 0xa4506ceb, 0xbef9a3f7, 0xc67178f2,
}

// words is a sum that goes on, as far as whole blocks change its words.
type words struct {
	api.Sum256
}

// add brings the words behind one more block.
func (w *words) add(block string) {
	all := spread(block)
	a, b, c, d, e, f, g, h := w.H[0], w.H[1], w.H[2], w.H[3], w.H[4], w.H[5], w.H[6], w.H[7]
	for t := range rounds {
		t1 := h + turned(e, 6, 11, 25) + (e&f ^ ^e&g) + cubeRoots[t] + all[t]
		t2 := turned(a, 2, 13, 22) + (a&b ^ a&c ^ b&c)
		a, b, c, d, e, f, g, h = t1+t2, a, b, c, d+t1, e, f, g
	}
	for i, n := range [8]uint32{a, b, c, d, e, f, g, h} {
		w.H[i] += n
	}
}

// spread makes a block into a word for each round.
func spread(block string) [rounds]uint32 {
	var all [rounds]uint32
	for t := range firstRead {
		all[t] = word(block[wordSize*t : wordSize*(t+1)])
	}
	for t := firstRead; t < rounds; t++ {
		all[t] = moved(all[t-2], 17, 19, 10) + all[t-7] + moved(all[t-15], 7, 18, 3) + all[t-16]
	}
	return all
}

// turned is the xor of a word turned right three times.
func turned(n uint32, one, two, three int) uint32 {
	return bits.RotateLeft32(n, -one) ^ bits.RotateLeft32(n, -two) ^ bits.RotateLeft32(n, -three)
}

// moved is the xor of a word turned right twice, and moved right, so that bits drop out.
func moved(n uint32, one, two int, out uint) uint32 {
	return bits.RotateLeft32(n, -one) ^ bits.RotateLeft32(n, -two) ^ n>>out
}

// word is the number of four bytes, the highest first.
func word(s string) uint32 {
	return uint32(s[0])<<24 | uint32(s[1])<<16 | uint32(s[2])<<8 | uint32(s[3])
}

// text is the words' bytes.
func (w *words) text() string {
	var out []byte
	for _, n := range w.H {
		out = appendNumber(out, uint64(n), wordSize)
	}
	return string(out)
}

// appendNumber puts so many bytes of a number behind others, the highest first.
func appendNumber(to []byte, n uint64, width int) []byte {
	for i := range width {
		to = append(to, byte(n>>(8*(width-1-i))))
	}
	return to
}
