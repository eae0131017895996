package scalar_test

import (
	"math/big"
	"strings"
	"testing"

	"imprimatur/api"
	"imprimatur/scalar"
)

const orderBytes = "\xed\xd3\xf5\x5c\x1a\x63\x12\x58\xd6\x9c\xf7\xa2\xde\xf9\xde\x14" + // L's lower ones
	"\x00\x00\x00\x00\x00\x00\x00\x00\x00\x00\x00\x00\x00\x00\x00\x10"

func zeros(n int) string {
	return strings.Repeat("\x00", n)
}

// P5.2: bytes told by numbers.
func TestBytesOfKnownNumbers(t *testing.T) {
	for _, c := range []struct {
		in   api.Sc
		want string
	}{
		{api.Sc{0}, zeros(32)},
		{api.Sc{1}, "\x01" + zeros(31)},
		{api.Sc{258}, "\x02\x01" + zeros(30)},
		{api.Sc{0x0807060504030201, 0x100f0e0d0c0b0a09, 0x1817161514131211, 0x0f1e1d1c1b1a1909}, "\x01\x02\x03\x04\x05\x06\x07\x08\x09\x0a\x0b\x0c\x0d\x0e\x0f\x10\x11\x12\x13\x14\x15\x16\x17\x18\x09\x19\x1a\x1b\x1c\x1d\x1e\x0f"},
		{orders(1, -1), "\xec" + orderBytes[1:]},
		{orders(1, 0), zeros(32)},
		{orders(1, 1), "\x01" + zeros(31)},
		{orders(2, -1), "\xec" + orderBytes[1:]},
		{orders(2, 0), zeros(32)},
		{orders(2, 1), "\x01" + zeros(31)},
		{orders(tallest, -1), "\xec" + orderBytes[1:]},
		{orders(tallest, 0), zeros(32)},
		{orders(tallest, 1), "\x01" + zeros(31)},
		{api.Sc{3: 1 << 60}, zeros(31) + "\x10"},
		{api.Sc{all, all, all, all}, "\x1c\x95\x98\x8d\x74\x31\xec\xd6\x70\xcf\x7d\x73\xf4\x5b\xef\xc6\xfe" + strings.Repeat("\xff", 14) + "\x0f"},
	} {
		if got := scalar.Bytes(c.in); got != c.want {
			t.Errorf("Bytes(%x): %x, not %x", c.in, got, c.want)
		}
	}
}

// P5.2: bytes of any number are 32, those of its Least.
func TestBytes(t *testing.T) {
	for _, x := range numbers() {
		if got, want := scalar.Bytes(x), written(great(least(great(x))), 32); got != want {
			t.Errorf("Bytes(%x): %x, not %x", x, got, want)
		}
	}
}

// P5.2: a text of another length is refused, whatever number it is, with nothing beside.
func TestParseOfOtherLengths(t *testing.T) {
	for n := range 100 {
		if n == 32 {
			continue
		}
		// Where the number would be too great as well, the length comes first.
		for _, letter := range []string{"\x00", "\x01", "\x10", "\xff"} {
			if got, e := scalar.Parse(strings.Repeat(letter, n)); got != (api.Sc{}) || e != api.ErrArg {
				t.Errorf("Parse of %d bytes %x: %x, %d, not ErrArg", n, letter, got, e)
			}
		}
	}
	seven := written(big.NewInt(7), 32)
	for _, s := range []string{seven[:31], seven + "\x00", "\x00" + seven, orderBytes[:31], orderBytes + "\x00", orderBytes + orderBytes, zeros(64), zeros(api.MaxText)} {
		if got, e := scalar.Parse(s); got != (api.Sc{}) || e != api.ErrArg {
			t.Errorf("Parse of %d bytes: %x, %d, not ErrArg", len(s), got, e)
		}
	}
}

// P5.2: 32 bytes told by numbers.
func TestParseOfKnownNumbers(t *testing.T) {
	for _, c := range []struct {
		in   string
		want api.Sc
		e    api.Errno
	}{
		{zeros(32), api.Sc{}, api.OK},
		{"\x01" + zeros(31), api.Sc{1}, api.OK},
		{zeros(8) + "\x01" + zeros(23), api.Sc{0, 1}, api.OK},
		{zeros(31) + "\x10", api.Sc{3: 1 << 60}, api.OK}, // 2^252
		{"\xec" + orderBytes[1:], api.Sc{0x5812631a5cf5d3ec, 0x14def9dea2f79cd6, 0, 1 << 60}, api.OK},
		{orderBytes, api.Sc{}, api.ErrScalar},
		{"\xee" + orderBytes[1:], api.Sc{}, api.ErrScalar},
		{zeros(31) + "\x11", api.Sc{}, api.ErrScalar},
		{zeros(31) + "\x20", api.Sc{}, api.ErrScalar}, // 2^253
		{zeros(31) + "\x80", api.Sc{}, api.ErrScalar},
		{strings.Repeat("\xff", 31) + "\x0f", api.Sc{all, all, all, 1<<60 - 1}, api.OK},
		{strings.Repeat("\xff", 32), api.Sc{}, api.ErrScalar},
	} {
		if got, e := scalar.Parse(c.in); got != c.want || e != c.e {
			t.Errorf("Parse of %x: %x, %d, not %x, %d", c.in, got, e, c.want, c.e)
		}
	}
}

// parsed tells of what is wrong with the parsing of a number in 32 bytes, and whether it is below L.
func parsed(t *testing.T, n *big.Int) bool {
	got, e := scalar.Parse(written(n, 32))
	if n.Cmp(order()) < 0 {
		if got != sc(n) || e != api.OK {
			t.Errorf("Parse of %x: %x, %d", n, got, e)
		}
		return true
	}
	if got != (api.Sc{}) || e != api.ErrScalar {
		t.Errorf("Parse of %x: %x, %d, not ErrScalar", n, got, e)
	}
	return false
}

// P5.2: 32 bytes are their number, if it is below L, and else refused, with nothing beside.
func TestParse(t *testing.T) {
	below, above := 0, 0
	for _, x := range append(numbers(), someNumbers(5, 2000)...) {
		for _, n := range []*big.Int{great(x), great(least(great(x)))} {
			if parsed(t, n) {
				below++
			} else {
				above++
			}
		}
	}
	if below < 100 || above < 100 {
		t.Errorf("%d numbers below L, and %d others", below, above)
	}
}

// P5.2: each of the numbers about L, and those of a bit, or of a bit more or less than L, in each place.
func TestParseAboutL(t *testing.T) {
	for more := int64(-300); more < 300; more++ {
		if below := parsed(t, moreBy(order(), more)); below != (more < 0) {
			t.Errorf("L and %d is below L: %t", more, below)
		}
	}
	for bit := range uint(256) {
		parsed(t, powerOfTwo(bit))
		parsed(t, moreBy(powerOfTwo(bit), -1))
		if more := new(big.Int).Add(order(), powerOfTwo(bit)); more.BitLen() <= 256 {
			parsed(t, more)
		}
		if less := new(big.Int).Sub(order(), powerOfTwo(bit)); less.Sign() >= 0 {
			parsed(t, less)
		}
	}
}
