package scalar

import (
	"math/bits"

	"imprimatur/api"
)

const (
	words    = 4          // of a number
	wordSize = 8          // bytes of a word
	mostWord = 1<<64 - 1  // the greatest word
	topBit   = 1 << 63    // of a word
	highBits = 252 - 3*64 // of the highest word of a number of four, those below 2^252
	lowBits  = 64 - highBits
)

// order is L.
var order = api.Sc{0x5812631a5cf5d3ed, 0x14def9dea2f79cd6, 0, 1 << highBits}

// left is what a number of any number of words, the lowest first, leaves, divided by L. From the highest on, each word comes to what those ahead of it leave.
func left(parts ...uint64) api.Sc {
	var x api.Sc
	for i := range len(parts) {
		x = next(x, parts[len(parts)-1-i])
	}
	return x
}

// next is what x, that is below L, times 2^64, with a word more, leaves, divided by L.
//
// As L is hardly above 2^252, taking it off as often as 2^252 goes in takes it off just as often as it goes in, or once too often. What is left then is nearer to 0 than L on either side, so its lowest four words tell all of it, the highest bit being that of a number below 0.
func next(x api.Sc, word uint64) api.Sc {
	rest := minus(api.Sc{word, x[0], x[1], x[2]}, orderTimes(often(x)))
	if rest[3] >= topBit {
		rest, _ = plus(rest, order)
	}
	return rest
}

// often is how often 2^252 goes in x times 2^64, if x is below L; of an x of 2^252 or more that is 2^64, and L goes in once less.
func often(x api.Sc) uint64 {
	if x[3] == order[3] {
		return mostWord
	}
	return x[3]<<lowBits | x[2]>>highBits
}

// orderTimes are the lowest four words of L so many times.
func orderTimes(times uint64) api.Sc {
	var out api.Sc
	var over uint64
	for i := range words {
		over, out[i] = wordTimes(order[i], times, 0, over)
	}
	return out
}

// plus is the sum, and what goes beyond its words: 0 or 1.
func plus(x, y api.Sc) (api.Sc, uint64) {
	var over uint64
	for i := range words {
		x[i], over = bits.Add64(x[i], y[i], over)
	}
	return x, over
}

// minus is the difference, as far as four words tell it.
func minus(x, y api.Sc) api.Sc {
	var lent uint64
	for i := range words {
		x[i], lent = bits.Sub64(x[i], y[i], lent)
	}
	return x
}

// wordTimes is the product of x and y, with two words more, as two words: so much always fits into them.
func wordTimes(x, y, one, two uint64) (high, low uint64) {
	high, low = bits.Mul64(x, y)
	low, over := bits.Add64(low, one, 0)
	high += over
	low, over = bits.Add64(low, two, 0)
	return high + over, low
}
