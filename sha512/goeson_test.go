package sha512_test

import (
	"math"
	"math/big"
	"strings"
	"testing"

	"imprimatur/api"
	"imprimatur/sha512"
)

const most = 1 << 40 // bytes of a sum that goes on

// P3.1: New has the words H, no Buf, and N 0.
func TestNew(t *testing.T) {
	want := api.Sum512{}
	for i, prime := range []int64{2, 3, 5, 7, 11, 13, 17, 19} {
		root := new(big.Int).Lsh(big.NewInt(prime), 128) // its square root is that of the prime, moved left by 64
		want.H[i] = lowest(root.Sqrt(root))
	}
	if got := sha512.New(); got != want {
		t.Errorf("New: %x, not %x", got, want)
	}
	if !sha512.Right(sha512.New()) {
		t.Error("New may not be")
	}
}

// P3.1: what is answered is a copy of the words, each time.
func TestNewIsNewEachTime(t *testing.T) {
	x := sha512.New()
	want := x
	x.H[0]++
	x.Buf, x.N = "a", 1
	if got := sha512.New(); got != want {
		t.Errorf("New: %x, not %x", got, want)
	}
}

// P3.1: Right, of each number of bytes in Buf and each small N.
func TestRightOfEachBuf(t *testing.T) {
	for waits := range 300 {
		for n := range uint64(600) {
			x := api.Sum512{Buf: mixed(waits), N: n}
			want := waits < 128 && int(n%128) == waits
			if got := sha512.Right(x); got != want {
				t.Fatalf("Right of %d bytes in Buf, N %d: %t", waits, n, got)
			}
		}
	}
}

// edgesOfRight are sums at the edges of what may be.
func edgesOfRight() []struct {
	waits int
	n     uint64
	want  bool
} {
	return []struct {
		waits int
		n     uint64
		want  bool
	}{
		{0, 0, true},
		{1, 1, true},
		{64, 64, true},
		{0, 64, false}, // half a block is none
		{64, 0, false},
		{127, 127, true},
		{128, 128, false},
		{128, 0, false},
		{0, 128, true},
		{1, 129, true},
		{127, 255, true},
		{128, 256, false},
		{129, 129, false},
		{129, 1, false},
		{256, 256, false},
		{1, 0, false},
		{0, 1, false},
		{127, 126, false},
		{126, 127, false},
		{127, 128, false},
		{0, most, true},
		{128, most, false},
		{64, most, false},
		{1, most, false},
		{127, most, false},
		{127, most - 1, true},
		{126, most - 1, false},
		{63, most - 1, false},
		{0, most - 128, true},
		{64, most - 64, true},
		{1, most + 1, false},
		{0, most + 1, false},
		{0, most + 128, false},
		{127, most + 127, false},
		{0, 2 * most, false},
		{0, 1 << 63, false},
		{127, math.MaxUint64, false},
		{0, math.MaxUint64, false},
		{0, math.MaxUint64 - 127, false},
		{api.MaxText, 0, false},
		{api.MaxText, api.MaxText, false},
	}
}

// P3.1: Right at the edges; the words count for nothing.
func TestRightAtTheEdges(t *testing.T) {
	for _, c := range edgesOfRight() {
		for _, h := range anyWords() {
			if got := sha512.Right(api.Sum512{H: h, Buf: mixed(c.waits), N: c.n}); got != c.want {
				t.Errorf("Right of %d bytes in Buf, N %d, words %x: %t", c.waits, c.n, h, got)
			}
		}
	}
}

// P3.1: a sum that may not be is refused by Write and End, whatever the bytes, with nothing beside.
func TestWhatMayNotBeIsRefused(t *testing.T) {
	for _, c := range edgesOfRight() {
		if c.want {
			continue
		}
		for _, h := range anyWords() {
			x := api.Sum512{H: h, Buf: mixed(c.waits), N: c.n}
			for _, s := range []string{"", "a", mixed(128), mixed(1000)} {
				// Where N would be too great as well, the sum that may not be comes first.
				if got, e := sha512.Write(x, s); got != (api.Sum512{}) || e != api.ErrArg {
					t.Errorf("Write to %d bytes in Buf, N %d, of %d bytes: %x, %d, not ErrArg", c.waits, c.n, len(s), got, e)
				}
			}
			if got, e := sha512.End(x); got != "" || e != api.ErrArg {
				t.Errorf("End of %d bytes in Buf, N %d: %x, %d, not ErrArg", c.waits, c.n, got, e)
			}
		}
	}
}

// P3.1: Write has the words behind each whole block, what is left, and how many bytes there were.
func TestWriteGoesOn(t *testing.T) {
	for _, h := range anyWords() {
		for _, waits := range []int{0, 1, 2, 63, 64, 111, 112, 126, 127} {
			for _, blocks := range []uint64{0, 1, 1000, most/128 - 100} {
				x := api.Sum512{H: h, Buf: mixed(waits), N: 128*blocks + uint64(waits)}
				for _, n := range edges() {
					s := mixed(n + 7)[7:]
					got, e := sha512.Write(x, s)
					if want := written(t, x, s); got != want || e != api.OK {
						t.Fatalf("Write to %d bytes in Buf, N %d, of %d bytes: %x, %d, not %x", waits, x.N, n, got, e, want)
					}
				}
			}
		}
	}
}

// P3.1: Write from nothing on, told by numbers.
func TestWriteLeavesWhatIsNoBlock(t *testing.T) {
	x := sha512.New()
	for _, c := range []struct {
		bytes, waits int
		same         bool // whether the words are still those of nothing
	}{
		{0, 0, true},
		{1, 1, true},
		{64, 64, true},
		{127, 127, true},
		{128, 0, false},
		{129, 1, false},
		{255, 127, false},
		{256, 0, false},
		{400, 16, false},
	} {
		s := mixed(c.bytes)
		got, e := sha512.Write(x, s)
		if e != api.OK || got.N != uint64(c.bytes) || got.Buf != s[c.bytes-c.waits:] || (got.H == x.H) != c.same {
			t.Errorf("Write of %d bytes: %x, %d", c.bytes, got, e)
		}
	}
}

// P3.1: End has the words behind Buf and what comes to it, of N bytes in all.
func TestEnd(t *testing.T) {
	for _, h := range anyWords() {
		for waits := range 128 {
			for _, blocks := range []uint64{0, 1, 2, 1 << 25, 1 << 28, most/128 - 1} {
				x := api.Sum512{H: h, Buf: mixed(waits), N: 128*blocks + uint64(waits)}
				got, e := sha512.End(x)
				if want := ended(t, x); got != want || len(got) != 64 || e != api.OK {
					t.Fatalf("End of %d bytes in Buf, N %d, words %x: %x, %d, not %x", waits, x.N, h, got, e, want)
				}
			}
		}
	}
}

// P3.1: a sum of just 2^40 bytes may be written to and ended; one of more may not come to be.
func TestTheMostBytes(t *testing.T) {
	for _, h := range anyWords() {
		for _, room := range []int{0, 1, 16, 17, 127, 128, 129, 256, 400} {
			n := uint64(most - room)
			x := api.Sum512{H: h, Buf: mixed(int(n % 128)), N: n}
			full, e := sha512.Write(x, mixed(room))
			if want := written(t, x, mixed(room)); full != want || full.N != most || e != api.OK || !sha512.Right(full) {
				t.Errorf("Write of the last %d bytes: %x, %d, not %x", room, full, e, want)
			}
			if got, e := sha512.Write(full, ""); got != full || e != api.OK {
				t.Errorf("Write of nothing to a full sum: %x, %d", got, e)
			}
			if got, e := sha512.End(full); got != ended(t, full) || e != api.OK {
				t.Errorf("End of a full sum: %x, %d", got, e)
			}
			for _, more := range []int{1, 2, 127, 128, 1000} {
				if got, e := sha512.Write(x, mixed(room+more)); got != (api.Sum512{}) || e != api.ErrLong {
					t.Errorf("Write of %d bytes more than may be: %x, %d, not ErrLong", more, got, e)
				}
			}
		}
	}
}

// R1: no call keeps anything: a sum that goes on two ways does not mix them up.
func TestTwoWaysOn(t *testing.T) {
	x, _ := sha512.Write(sha512.New(), mixed(140))
	was := x
	one, _ := sha512.Write(x, "one")
	two, _ := sha512.Write(x, strings.Repeat("two", 50))
	for range 2 {
		for _, c := range []struct {
			x api.Sum512
			s string
		}{{one, mixed(140) + "one"}, {two, mixed(140) + strings.Repeat("two", 50)}, {x, mixed(140)}} {
			if got, e := sha512.End(c.x); got != summed(c.s) || e != api.OK {
				t.Errorf("End of %d bytes: %x, %d", len(c.s), got, e)
			}
		}
	}
	if x != was {
		t.Errorf("the sum is now %x, not %x", x, was)
	}
}

// lowest are a number's last 64 bits.
func lowest(n *big.Int) uint64 {
	return new(big.Int).And(n, new(big.Int).SetUint64(math.MaxUint64)).Uint64()
}
