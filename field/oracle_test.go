package field_test

import (
	"encoding/binary"
	"math/big"
	"math/rand"
	"testing"

	"imprimatur/api"
)

const (
	all = ^uint64(0) // a word of ones
	top = 1 << 63
)

// prime is p, reckoned from what the chapter says of it.
func prime() *big.Int {
	return minusOf(powerOfTwo(255), 19)
}

func powerOfTwo(n uint) *big.Int {
	return new(big.Int).Lsh(big.NewInt(1), n)
}

func minusOf(x *big.Int, n int64) *big.Int {
	return new(big.Int).Sub(x, big.NewInt(n))
}

// great is the number of four words.
func great(x api.Fe) *big.Int {
	b := make([]byte, 32)
	for i, w := range x {
		binary.BigEndian.PutUint64(b[24-8*i:], w)
	}
	return new(big.Int).SetBytes(b)
}

// fe is a number from 0 to 2^256 - 1 in four words.
func fe(n *big.Int) api.Fe {
	b := n.FillBytes(make([]byte, 32))
	var x api.Fe
	for i := range x {
		x[i] = binary.BigEndian.Uint64(b[24-8*i:])
	}
	return x
}

// least is what any number, also one below 0, leaves, divided by p.
func least(n *big.Int) api.Fe {
	return fe(new(big.Int).Mod(n, prime()))
}

// timesPrime is p so many times, and some more.
func timesPrime(times, more int64) api.Fe {
	n := new(big.Int).Mul(prime(), big.NewInt(times))
	return fe(n.Add(n, big.NewInt(more)))
}

// edges are numbers at each place about which a call may go wrong.
func edges() []api.Fe {
	list := []api.Fe{
		{0}, {1}, {2}, {3}, {4}, {18}, {19}, {20}, {37}, {38}, {39},
		timesPrime(1, -20), timesPrime(1, -19), timesPrime(1, -2), timesPrime(1, -1), timesPrime(1, 0), timesPrime(1, 1), timesPrime(1, 2), timesPrime(1, 18), timesPrime(1, 19), timesPrime(1, 20),
		timesPrime(2, -2), timesPrime(2, -1), timesPrime(2, 0), timesPrime(2, 1), timesPrime(2, 2), timesPrime(2, 36), timesPrime(2, 37),
		fe(new(big.Int).Rsh(prime(), 1)), fe(minusOf(new(big.Int).Rsh(prime(), 1), -1)),
		{3: top}, {3: top - 1}, {3: top + 1}, {3: 1 << 62}, {0: 1, 3: top},
		{0xfedcba9876543210, 0x0123456789abcdef, 0xdeadbeefdeadbeef, 0x0f1e2d3c4b5a6978},
	}
	// Words of 0 or all ones in each place, alone and beside small and great ones.
	for mask := range 16 {
		var x api.Fe
		for i := range x {
			if mask>>i&1 == 1 {
				x[i] = all
			}
		}
		list = append(list, x)
		for i := range x {
			one, high := x, x
			one[i], high[i] = 1, top
			list = append(list, one, high)
		}
	}
	return list
}

// someNumbers are so many of any words, of which some are 0 or all ones.
func someNumbers(seed int64, count int) []api.Fe {
	r := rand.New(rand.NewSource(seed))
	list := make([]api.Fe, count)
	for n := range list {
		for i := range list[n] {
			list[n][i] = []uint64{0, all, r.Uint64(), r.Uint64(), r.Uint64(), r.Uint64()}[r.Intn(6)]
		}
	}
	return list
}

// numbers are the edges, and any others.
func numbers() []api.Fe {
	return append(edges(), someNumbers(1, 500)...)
}

// hasRoot tells by the power (p - 1) / 2 of a number that does not count as 0.
func hasRoot(n *big.Int) bool {
	p := prime()
	power := new(big.Int).Exp(n, new(big.Int).Rsh(p, 1), p)
	return power.Cmp(big.NewInt(1)) == 0
}

// rootOf is the even root, found by the library.
func rootOf(n *big.Int) (api.Fe, bool) {
	p := prime()
	n = new(big.Int).Mod(n, p)
	root := new(big.Int).ModSqrt(n, p)
	if root == nil {
		return api.Fe{}, false
	}
	if root.Bit(0) == 1 {
		root.Sub(p, root)
	}
	return fe(root), true
}

// The words of this file lead to numbers and back; p is that of the chapter.
func TestOracle(t *testing.T) {
	if got := fe(prime()); got != (api.Fe{all - 18, all, all, top - 1}) {
		t.Errorf("p: %x", got)
	}
	if got := timesPrime(2, 37); got != (api.Fe{all, all, all, all}) {
		t.Errorf("2p + 37: %x", got)
	}
	for _, x := range numbers() {
		if got := fe(great(x)); got != x {
			t.Errorf("%x comes back as %x", x, got)
		}
	}
}
