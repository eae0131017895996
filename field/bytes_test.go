package field_test

import (
	"math/big"
	"slices"
	"strings"
	"testing"

	"imprimatur/api"
	"imprimatur/field"
)

// written are 32 bytes of a number, the lowest first.
func written(n *big.Int) string {
	b := n.FillBytes(make([]byte, 32))
	slices.Reverse(b)
	return string(b)
}

// P4.3: bytes told by numbers.
func TestBytesOfKnownNumbers(t *testing.T) {
	zeros := func(n int) string { return strings.Repeat("\x00", n) }
	ones := strings.Repeat("\xff", 30)
	for _, c := range []struct {
		in   api.Fe
		want string
	}{
		{api.Fe{0}, zeros(32)},
		{api.Fe{1}, "\x01" + zeros(31)},
		{api.Fe{258}, "\x02\x01" + zeros(30)},
		{api.Fe{0x0807060504030201, 0x100f0e0d0c0b0a09, 0x1817161514131211, 0x201f1e1d1c1b1a19}, "\x01\x02\x03\x04\x05\x06\x07\x08\x09\x0a\x0b\x0c\x0d\x0e\x0f\x10\x11\x12\x13\x14\x15\x16\x17\x18\x19\x1a\x1b\x1c\x1d\x1e\x1f\x20"},
		{timesPrime(1, -1), "\xec" + ones + "\x7f"},
		{timesPrime(1, 0), zeros(32)},
		{timesPrime(1, 1), "\x01" + zeros(31)},
		{timesPrime(2, -1), "\xec" + ones + "\x7f"},
		{timesPrime(2, 0), zeros(32)},
		{timesPrime(2, 1), "\x01" + zeros(31)},
		{api.Fe{all, all, all, all}, "\x25" + zeros(31)},
		{api.Fe{3: top}, "\x13" + zeros(31)},
		{api.Fe{3: 1 << 56}, zeros(31) + "\x01"},
	} {
		if got := field.Bytes(c.in); got != c.want {
			t.Errorf("Bytes(%x): %x, not %x", c.in, got, c.want)
		}
	}
}

// P4.3: bytes of any number are 32, those of its Least.
func TestBytes(t *testing.T) {
	for _, x := range numbers() {
		if got, want := field.Bytes(x), written(great(least(great(x)))); got != want {
			t.Errorf("Bytes(%x): %x, not %x", x, got, want)
		}
	}
}

// P4.3: a text of another length is refused, whatever number it is, with nothing beside.
func TestParseOfOtherLengths(t *testing.T) {
	for n := range 100 {
		if n == 32 {
			continue
		}
		// Where the number would be too great as well, the length comes first.
		for _, letter := range []string{"\x00", "\x01", "\x7f", "\xff"} {
			if got, e := field.Parse(strings.Repeat(letter, n)); got != (api.Fe{}) || e != api.ErrArg {
				t.Errorf("Parse of %d bytes %x: %x, %d, not ErrArg", n, letter, got, e)
			}
		}
	}
	for _, s := range []string{"", written(prime())[:31], written(prime()) + "\x00", written(big.NewInt(7)) + "\x00", "\x00" + written(big.NewInt(7)), strings.Repeat("\x00", api.MaxText)} {
		if got, e := field.Parse(s); got != (api.Fe{}) || e != api.ErrArg {
			t.Errorf("Parse of %d bytes: %x, %d, not ErrArg", len(s), got, e)
		}
	}
}

// P4.3: 32 bytes are their number, if it is below p, and else refused, with nothing beside.
func TestParse(t *testing.T) {
	few, many := 0, 0
	for _, x := range numbers() {
		n := great(x)
		got, e := field.Parse(written(n))
		if n.Cmp(prime()) < 0 {
			few++
			if got != x || e != api.OK {
				t.Errorf("Parse of %x: %x, %d", n, got, e)
			}
			continue
		}
		many++
		if got != (api.Fe{}) || e != api.ErrLong {
			t.Errorf("Parse of %x: %x, %d, not ErrLong", n, got, e)
		}
	}
	if few < 100 || many < 100 {
		t.Errorf("%d numbers below p, and %d others", few, many)
	}
}

// P4.3: each of the numbers about p and 2^255, and those of a byte more in each place.
func TestParseAboutP(t *testing.T) {
	for more := int64(-300); more < 300; more++ {
		n := minusOf(prime(), -more)
		got, e := field.Parse(written(n))
		if more < 0 && (got != fe(n) || e != api.OK) {
			t.Errorf("Parse of p %d: %x, %d", more, got, e)
		}
		if more >= 0 && (got != (api.Fe{}) || e != api.ErrLong) {
			t.Errorf("Parse of p + %d: %x, %d, not ErrLong", more, got, e)
		}
	}
	for i := range uint(256) {
		got, e := field.Parse(written(powerOfTwo(i)))
		if want := fe(powerOfTwo(i)); i < 255 && (got != want || e != api.OK) {
			t.Errorf("Parse of 2^%d: %x, %d", i, got, e)
		}
		if i == 255 && (got != (api.Fe{}) || e != api.ErrLong) {
			t.Errorf("Parse of 2^255: %x, %d, not ErrLong", got, e)
		}
		if i > 4 && i < 255 {
			n := new(big.Int).Sub(prime(), powerOfTwo(i)) // p, with a 0 among its ones
			if got, e := field.Parse(written(n)); got != fe(n) || e != api.OK {
				t.Errorf("Parse of p - 2^%d: %x, %d", i, got, e)
			}
		}
	}
	for _, x := range []api.Fe{timesPrime(2, -1), timesPrime(2, 0), timesPrime(2, 1), {all, all, all, all}, {3: top}, {1, 2, 3, top}, {3: all}} {
		if got, e := field.Parse(written(great(x))); got != (api.Fe{}) || e != api.ErrLong {
			t.Errorf("Parse of %x: %x, %d, not ErrLong", x, got, e)
		}
	}
}
