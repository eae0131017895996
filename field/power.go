package field

import "imprimatur/api"

// rootOfMinusOne is one whose square counts as -1.
var rootOfMinusOne = api.Fe{0xc4ee1b274a0ea0b0, 0x2f431806ad2fe478, 0x2b4d00993dfbd7a7, 0x2b8324804fc1df0b}

// power is x to the power 2^252 - 3, with which both inverses and roots are made: in binary that is 250 ones, 0 and 1.
func power(x api.Fe) api.Fe {
	return Mul(squared(ones(x, 250), 2), x)
}

// ones is x to the power that so many ones are in binary. To halve them spares most of the products that are not squares.
func ones(x api.Fe, n int) api.Fe {
	if n == 1 {
		return x
	}
	half := ones(x, n/2)
	out := Mul(squared(half, n/2), half)
	if n%2 == 1 {
		out = Mul(squared(out, 1), x)
	}
	return out
}

// squared is x, made its own square so many times.
func squared(x api.Fe, times int) api.Fe {
	for range times {
		x = Mul(x, x)
	}
	return x
}

// even is the even one of a number below p and its contrary: as p is odd, just one of them is, and 0 is its own contrary.
func even(x api.Fe) api.Fe {
	if x[0]%2 == 1 {
		return Sub(Of(0), x)
	}
	return x
}
