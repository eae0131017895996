package field

import (
	"math/bits"

	"imprimatur/api"
)

const (
	words    = 4  // of a number
	wordSize = 8  // bytes of a word
	beyond   = 38 // what 2^256 counts as
)

var prime = api.Fe{0xffffffffffffffed, 0xffffffffffffffff, 0xffffffffffffffff, 0x7fffffffffffffff}

// plus is the sum, and what goes beyond its words: 0 or 1.
func plus(x, y api.Fe) (api.Fe, uint64) {
	var over uint64
	for i := range words {
		x[i], over = bits.Add64(x[i], y[i], over)
	}
	return x, over
}

// minus is the difference, and whether it is below 0.
func minus(x, y api.Fe) (api.Fe, bool) {
	var lent uint64
	for i := range words {
		x[i], lent = bits.Sub64(x[i], y[i], lent)
	}
	return x, lent != 0
}

// wordTimes is the product of x and y, with two words more, as two words: so much always fits into them.
func wordTimes(x, y, one, two uint64) (high, low uint64) {
	high, low = bits.Mul64(x, y)
	low, over := bits.Add64(low, one, 0)
	high += over
	low, over = bits.Add64(low, two, 0)
	return high + over, low
}

// reduced is the least number that counts as x and so many times 2^256. It ends: of few times, no more than one is left behind the first sum, and none behind the second.
func reduced(x api.Fe, times uint64) api.Fe {
	for times != 0 {
		over := times * beyond
		for i := range words {
			x[i], over = bits.Add64(x[i], over, 0)
		}
		times = over
	}
	return Least(x)
}
