package ed

import (
	"imprimatur/api"
	"imprimatur/point"
	"imprimatur/scalar"
	"imprimatur/sha512"
)

// The bits of a seed's number that hang on no seed.
const (
	lowestBits = 7   // of its first byte: 0
	highestBit = 128 // of its last byte: 0
	nextBit    = 64  // of its last byte: 1
)

// signer is what a seed comes to.
type signer struct {
	number api.Sc
	prefix string
	key    string
}

func signerOf(seed string) signer {
	sum := sha512.Sum(seed)
	number := numberOf(sum[:size])
	return signer{number, sum[size:], bytesOf(baseTimes(number))}
}

// sign is a message's signature.
func (s signer) sign(message string) string {
	r := left(s.prefix, message)
	first := bytesOf(baseTimes(r))
	k := left(first, s.key, message)
	return first + scalar.Bytes(scalar.Add(r, scalar.Mul(k, s.number)))
}

// numberOf is a seed's number, of the first bytes of its sum. What it leaves, divided by L, does for it, as L times the base point is Zero.
func numberOf(s string) api.Sc {
	b := []byte(s)
	b[0] &^= lowestBits
	b[size-1] = b[size-1]&^highestBit | nextBit
	n, _ := scalar.Wide(string(b))
	return n
}

// left is what the sum of parts leaves, divided by L: its bytes are just as many as Wide takes.
func left(parts ...string) api.Sc {
	n, _ := scalar.Wide(sha512.Sum(parts...))
	return n
}

// baseTimes, baseLess and bytesOf reckon with points that may be, so that there is no error to tell.
func baseTimes(n api.Sc) api.Point {
	p, _ := point.Mul(n, point.Base())
	return p
}

// baseLess are the bytes of the base point times s, less p times k.
func baseLess(s api.Sc, p api.Point, k api.Sc) string {
	often, _ := point.Mul(k, p)
	less, _ := point.Neg(often)
	rest, _ := point.Add(baseTimes(s), less)
	return bytesOf(rest)
}

func bytesOf(p api.Point) string {
	s, _ := point.Bytes(p)
	return s
}
