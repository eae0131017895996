package scalar_test

import (
	"encoding/binary"
	"math/big"
	"math/rand"
	"slices"
	"testing"

	"imprimatur/api"
)

const (
	all     = ^uint64(0) // a word of ones
	top     = 1 << 63
	tallest = 15 // as often as L goes in a number of four words
)

// order is L, reckoned from what the chapter says of it.
func order() *big.Int {
	rest, _ := new(big.Int).SetString("27742317777372353535851937790883648493", 10)
	return rest.Add(rest, powerOfTwo(252))
}

func powerOfTwo(n uint) *big.Int {
	return new(big.Int).Lsh(big.NewInt(1), n)
}

func moreBy(x *big.Int, n int64) *big.Int {
	return new(big.Int).Add(x, big.NewInt(n))
}

func timesOrder(times *big.Int, more int64) *big.Int {
	return moreBy(new(big.Int).Mul(order(), times), more)
}

// great is the number of four words.
func great(x api.Sc) *big.Int {
	b := make([]byte, 32)
	for i, w := range x {
		binary.BigEndian.PutUint64(b[24-8*i:], w)
	}
	return new(big.Int).SetBytes(b)
}

// sc is a number from 0 to 2^256 - 1 in four words.
func sc(n *big.Int) api.Sc {
	b := n.FillBytes(make([]byte, 32))
	var x api.Sc
	for i := range x {
		x[i] = binary.BigEndian.Uint64(b[24-8*i:])
	}
	return x
}

// orders is L so many times, and some more, in four words.
func orders(times, more int64) api.Sc {
	return sc(timesOrder(big.NewInt(times), more))
}

// least is what any number leaves, divided by L.
func least(n *big.Int) api.Sc {
	return sc(new(big.Int).Mod(n, order()))
}

// written are so many bytes of a number, the lowest first.
func written(n *big.Int, width int) string {
	b := n.FillBytes(make([]byte, width))
	slices.Reverse(b)
	return string(b)
}

// numberOf is that of bytes, the lowest first.
func numberOf(s string) *big.Int {
	b := []byte(s)
	slices.Reverse(b)
	return new(big.Int).SetBytes(b)
}

// edges are numbers at each place about which a call may go wrong.
func edges() []api.Sc {
	list := []api.Sc{
		{0}, {1}, {2}, {3}, {all}, {0, 1}, {top},
		{3: top}, {3: top - 1}, {3: 1 << 60}, {0: 1, 3: 1 << 60}, {3: 1<<60 - 1}, {all, all, all, 1<<60 - 1}, {3: 1 << 61}, {all, all, all, 1<<61 - 1},
		{0xfedcba9876543210, 0x0123456789abcdef, 0xdeadbeefdeadbeef, 0x0f1e2d3c4b5a6978},
		sc(new(big.Int).Rsh(order(), 1)), sc(moreBy(new(big.Int).Rsh(order(), 1), 1)),
	}
	for times := range int64(tallest + 1) {
		for more := int64(-2); more <= 2; more++ {
			if n := timesOrder(big.NewInt(times), more); n.Sign() >= 0 {
				list = append(list, sc(n))
			}
		}
		if times > 0 {
			list = append(list, sc(new(big.Int).Mul(powerOfTwo(252), big.NewInt(times))))
		}
	}
	// Words of 0 or all ones in each place, alone and beside small and great ones.
	for mask := range 16 {
		var x api.Sc
		for i := range x {
			if mask>>i&1 == 1 {
				x[i] = all
			}
		}
		list = append(list, x)
		for i := range x {
			one, high := x, x
			one[i], high[i] = 1, top
			list = append(list, one, high)
		}
	}
	return list
}

// someNumbers are so many of any words, of which some are 0 or all ones.
func someNumbers(seed int64, count int) []api.Sc {
	r := rand.New(rand.NewSource(seed))
	list := make([]api.Sc, count)
	for n := range list {
		for i := range list[n] {
			list[n][i] = []uint64{0, all, r.Uint64(), r.Uint64(), r.Uint64(), r.Uint64()}[r.Intn(6)]
		}
	}
	return list
}

// numbers are the edges, and any others.
func numbers() []api.Sc {
	return append(edges(), someNumbers(1, 500)...)
}

// The words of this file lead to numbers and back; L is that of the chapter, and tallest is as often as it goes in.
func TestOracle(t *testing.T) {
	if got := sc(order()); got != (api.Sc{0x5812631a5cf5d3ed, 0x14def9dea2f79cd6, 0, 1 << 60}) {
		t.Errorf("L: %x", got)
	}
	if !order().ProbablyPrime(20) {
		t.Error("L is no prime")
	}
	if most := great(api.Sc{all, all, all, all}); new(big.Int).Div(most, order()).Int64() != tallest {
		t.Errorf("L goes in %x another number of times than %d", most, tallest)
	}
	for _, x := range numbers() {
		if got := sc(great(x)); got != x {
			t.Errorf("%x comes back as %x", x, got)
		}
		if got := numberOf(written(great(x), 32)); got.Cmp(great(x)) != 0 {
			t.Errorf("%x, written, comes back as %x", x, got)
		}
	}
}
