package scalar_test

import (
	"math/big"
	"math/rand"
	"strings"
	"testing"

	"imprimatur/api"
	"imprimatur/scalar"
)

// wide tells of what is wrong with the number of a text that is not too long.
func wide(t *testing.T, s string) {
	got, e := scalar.Wide(s)
	if want := least(numberOf(s)); got != want || e != api.OK {
		t.Errorf("Wide of %d bytes %x: %x, %d, not %x", len(s), s, got, e, want)
	}
}

// P5.2: texts told by numbers.
func TestWideOfKnownNumbers(t *testing.T) {
	for _, c := range []struct {
		in   string
		want api.Sc
	}{
		{"", api.Sc{0}},
		{"\x00", api.Sc{0}},
		{"\x07", api.Sc{7}},
		{"\x02\x01", api.Sc{258}},
		{"\x01\x02\x03\x04\x05\x06\x07\x08\x09", api.Sc{0x0807060504030201, 9}},
		{"\x01" + zeros(63), api.Sc{1}},
		{zeros(31) + "\x10", api.Sc{3: 1 << 60}},
		{"\xec" + orderBytes[1:], orders(1, -1)},
		{orderBytes, api.Sc{0}},
		{"\xee" + orderBytes[1:], api.Sc{1}},
		{orderBytes + zeros(32), api.Sc{0}},
		{zeros(32) + orderBytes, api.Sc{0}},
		{zeros(1) + orderBytes, api.Sc{0}},
		{orderBytes + orderBytes, api.Sc{0}},
		{"\x05" + zeros(31) + orderBytes, api.Sc{5}},
	} {
		if got, e := scalar.Wide(c.in); got != c.want || e != api.OK {
			t.Errorf("Wide of %x: %x, %d, not %x", c.in, got, e, c.want)
		}
	}
}

// P5.2: texts of every number of bytes up to 64, of bytes that are all 0, all ones, or any, with a lowest or a highest one.
func TestWideOfEveryLength(t *testing.T) {
	r := rand.New(rand.NewSource(6))
	for n := range 65 {
		for _, letter := range []string{"\x00", "\x01", "\x10", "\x7f", "\x80", "\xff"} {
			wide(t, strings.Repeat(letter, n))
			if n > 0 {
				wide(t, letter+zeros(n-1))
				wide(t, zeros(n-1)+letter)
			}
		}
		for range 200 {
			b := make([]byte, n)
			r.Read(b)
			wide(t, string(b))
		}
	}
}

// P5.2: a bit in each place, and all ones below it.
func TestWideOfEachBit(t *testing.T) {
	for bit := range uint(512) {
		wide(t, written(powerOfTwo(bit), 64))
		wide(t, written(moreBy(powerOfTwo(bit), -1), 64))
	}
}

// P5.2: L so many times, with one more and one less, in as many bytes as it takes, and in all 64.
func TestWideOfTimesL(t *testing.T) {
	r := rand.New(rand.NewSource(7))
	most := new(big.Int).Div(moreBy(powerOfTwo(512), -1), order())
	times := []*big.Int{big.NewInt(1), big.NewInt(2), big.NewInt(tallest), big.NewInt(tallest + 1), order(), moreBy(order(), -1), moreBy(order(), 1), most, moreBy(most, -1)}
	for bit := range uint(most.BitLen()) {
		times = append(times, powerOfTwo(bit), moreBy(powerOfTwo(bit), -1), new(big.Int).Rand(r, powerOfTwo(bit)))
	}
	for _, n := range times {
		for more := int64(-1); more <= 1; more++ {
			number := timesOrder(n, more)
			if number.Sign() < 0 {
				continue
			}
			want := api.Sc{uint64(more)}
			if more < 0 {
				want = orders(1, more)
			}
			for _, width := range []int{(number.BitLen() + 7) / 8, 64} {
				if got, e := scalar.Wide(written(number, width)); got != want || e != api.OK {
					t.Errorf("Wide of L %x times, and %d, in %d bytes: %x, %d, not %x", n, more, width, got, e, want)
				}
			}
		}
	}
}

// P5.2: numbers whose words from some place on leave nearly L, or more than 2^252, so that what they are taken from next is the greatest there is.
func TestWideOfMostOnes(t *testing.T) {
	for _, high := range []*big.Int{moreBy(order(), -1), moreBy(order(), -2), powerOfTwo(252), moreBy(powerOfTwo(252), 1), moreBy(powerOfTwo(252), -1)} {
		for words := uint(0); words <= 4; words++ {
			for _, low := range []*big.Int{big.NewInt(0), moreBy(powerOfTwo(64*words), -1), powerOfTwo(64 * words / 2)} {
				n := new(big.Int).Lsh(high, 64*words)
				wide(t, written(n.Or(n, low), 64))
			}
		}
	}
}

// P5.2: bytes more than 64 are refused, whatever they are, with nothing beside.
func TestWideOfTooMany(t *testing.T) {
	for _, n := range []int{65, 66, 72, 96, 127, 128, 129, 256, 1000, api.MaxText, api.MaxText + 1} {
		for _, letter := range []string{"\x00", "\x01", "\xff"} {
			if got, e := scalar.Wide(strings.Repeat(letter, n)); got != (api.Sc{}) || e != api.ErrArg {
				t.Errorf("Wide of %d bytes %x: %x, %d, not ErrArg", n, letter, got, e)
			}
		}
	}
	for _, s := range []string{"\x07" + zeros(64), zeros(64) + "\x07", orderBytes + orderBytes + "\x00"} {
		if got, e := scalar.Wide(s); got != (api.Sc{}) || e != api.ErrArg {
			t.Errorf("Wide of %x: %x, %d, not ErrArg", s, got, e)
		}
	}
}
