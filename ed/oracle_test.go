package ed_test

import (
	"crypto/ed25519"
	library "crypto/sha512"
	"encoding/hex"
	"math/big"
	"math/rand"
	"slices"
	"strings"
	"sync"
	"testing"

	"imprimatur/api"
)

// spot is a point with which the document's own sum reckons: x and y, each times z.
type spot struct{ x, y, z *big.Int }

func powerOfTwo(n uint) *big.Int {
	return new(big.Int).Lsh(big.NewInt(1), n)
}

func moreBy(n *big.Int, more int64) *big.Int {
	return new(big.Int).Add(n, big.NewInt(more))
}

func sum(a, b *big.Int) *big.Int {
	return new(big.Int).Add(a, b)
}

func number(digits string) *big.Int {
	n, _ := new(big.Int).SetString(digits, 10)
	return n
}

// p is the number that coordinates count modulo, order is L, d is that of the curve, all from what the chapters say of them.
var (
	p     = moreBy(powerOfTwo(255), -19)
	order = sum(powerOfTwo(252), number("27742317777372353535851937790883648493"))
	d     = over(big.NewInt(-121665), big.NewInt(121666))
)

func times(list ...*big.Int) *big.Int {
	out := new(big.Int).Set(list[0])
	for _, n := range list[1:] {
		out.Mod(out.Mul(out, n), p)
	}
	return out.Mod(out, p)
}

func over(a, b *big.Int) *big.Int {
	return times(a, new(big.Int).ModInverse(new(big.Int).Mod(b, p), p))
}

func minus(a *big.Int) *big.Int {
	return new(big.Int).Mod(new(big.Int).Neg(a), p)
}

// plus is the document's sum, where both parts are put above one number, so that nothing need be divided.
func (a spot) plus(b spot) spot {
	z, xx, yy := times(a.z, b.z), times(a.x, b.x), times(a.y, b.y)
	rest, square := times(d, xx, yy), times(z, z)
	underX, underY := sum(square, rest), new(big.Int).Sub(square, rest)
	xy := new(big.Int).Mul(a.x, b.y)
	return spot{
		times(xy.Add(xy, new(big.Int).Mul(b.x, a.y)), z, underY),
		times(sum(yy, xx), z, underX),
		times(underX, underY),
	}
}

// times is the sum of all the point's doubles for which n has a bit, from the lowest one on.
func (a spot) times(n *big.Int) spot {
	out := zero
	for i := range n.BitLen() {
		if n.Bit(i) == 1 {
			out = out.plus(a)
		}
		a = a.plus(a)
	}
	return out
}

// baseTimes is the same of the base point, whose doubles are kept, as they are asked for so often.
func baseTimes(n *big.Int) spot {
	out := zero
	for i := range n.BitLen() {
		if n.Bit(i) == 1 {
			out = out.plus(baseDoubles()[i])
		}
	}
	return out
}

var baseDoubles = sync.OnceValue(func() []spot {
	out := []spot{base}
	for range 255 {
		a := out[len(out)-1]
		out = append(out, a.plus(a))
	}
	return out
})

func (a spot) contrary() spot {
	return spot{minus(a.x), a.y, a.z}
}

// bytes are y's, with 128 added to the last one, if x is odd.
func (a spot) bytes() string {
	out := []byte(written(over(a.y, a.z), 32))
	out[31] += 128 * byte(over(a.x, a.z).Bit(0))
	return string(out)
}

func (a spot) is(b spot) bool {
	return a.bytes() == b.bytes()
}

// atY is the point of that y, of any size, with an x that is odd, or even; of an x of 0, whatever is asked for, there is just one.
func atY(y *big.Int, isOdd bool) (spot, bool) {
	square := times(y, y)
	x := new(big.Int).ModSqrt(over(moreBy(square, -1), moreBy(times(d, square), 1)), p)
	if x == nil {
		return spot{}, false
	}
	if (x.Bit(0) == 1) != isOdd {
		x = minus(x)
	}
	return spot{x, times(y), big.NewInt(1)}, true
}

// anyOf is the point of 32 bytes, if there is one, with no look at whether y is below p, or an x of 0 is asked to be odd.
func anyOf(s string) (spot, bool) {
	n := numberOf(s)
	return atY(new(big.Int).And(n, moreBy(powerOfTwo(255), -1)), n.Bit(255) == 1)
}

// pointOf is the point of bytes that are just its own.
func pointOf(s string) (spot, bool) {
	a, is := anyOf(s)
	return a, is && a.bytes() == s
}

// written are so many bytes of a number, the lowest first.
func written(n *big.Int, width int) string {
	b := n.FillBytes(make([]byte, width))
	slices.Reverse(b)
	return string(b)
}

// numberOf is that of bytes, the lowest first.
func numberOf(s string) *big.Int {
	b := []byte(s)
	slices.Reverse(b)
	return new(big.Int).SetBytes(b)
}

// left is what the library's sum of parts leaves, divided by L.
func left(parts ...string) *big.Int {
	return new(big.Int).Mod(whole(parts...), order)
}

func whole(parts ...string) *big.Int {
	all := library.Sum512([]byte(strings.Join(parts, "")))
	return numberOf(string(all[:]))
}

// verified is what the chapter says of a signature.
func verified(key, message, sig string) api.Errno {
	if len(key) != 32 || len(sig) != 64 {
		return api.ErrArg
	}
	a, is := pointOf(key)
	if !is {
		return api.ErrPoint
	}
	s := numberOf(sig[32:])
	if s.Cmp(order) >= 0 {
		return api.ErrScalar
	}
	if rightFirst(a, key, message, sig) != sig[:32] {
		return api.ErrSig
	}
	return api.OK
}

// rightFirst are the bytes of the base point times S, less the key's point times k.
func rightFirst(a spot, key, message, sig string) string {
	k := left(sig[:32], key, message)
	return baseTimes(numberOf(sig[32:])).plus(a.contrary().times(k)).bytes()
}

// passesBy8 tells of a signature by a key that is a point's whether the equation holds with both sides times 8, as the chapter does not ask for.
func passesBy8(key, message, sig string) bool {
	a, _ := anyOf(key)
	r, is := anyOf(sig[:32])
	got, _ := anyOf(rightFirst(a, key, message, sig))
	return is && got.times(big.NewInt(8)).is(r.times(big.NewInt(8)))
}

// libraryKey is the library's of a seed: the seed, and the key behind it.
func libraryKey(seed string) ed25519.PrivateKey {
	return ed25519.NewKeyFromSeed([]byte(seed))
}

func keyOf(seed string) string {
	return string(libraryKey(seed)[32:])
}

func signed(seed, message string) string {
	return string(ed25519.Sign(libraryKey(seed), []byte(message)))
}

func unhex(s string) string {
	b, err := hex.DecodeString(s)
	if err != nil {
		panic(err)
	}
	return string(b)
}

func zeros(n int) string {
	return strings.Repeat("\x00", n)
}

// mixed are so many bytes, of all kinds.
func mixed(n int) string {
	b := make([]byte, n)
	for i := range b {
		b[i] = byte(i*i/7 + 31*i + i>>8)
	}
	return string(b)
}

// seeds are so many, of any bytes.
func seeds(from int64, count int) []string {
	r := rand.New(rand.NewSource(from))
	list := make([]string, count)
	for i := range list {
		b := make([]byte, 32)
		r.Read(b)
		list[i] = string(b)
	}
	return list
}

// turned is s with one bit another one.
func turned(s string, bit int) string {
	b := []byte(s)
	b[bit/8] ^= 1 << (bit % 8)
	return string(b)
}

var (
	zero = spot{big.NewInt(0), big.NewInt(1), big.NewInt(1)}
	base = func() spot {
		out, _ := atY(over(big.NewInt(4), big.NewInt(5)), false)
		return out
	}()
)

// eight are one point of order 8, 0 to 7 times.
var eight = sync.OnceValue(func() []spot {
	for y := int64(2); ; y++ {
		a, is := atY(big.NewInt(y), false)
		if !is {
			continue
		}
		if a = a.times(order); !a.times(big.NewInt(4)).is(zero) {
			var out []spot
			for b := zero; len(out) < 8; b = b.plus(a) {
				out = append(out, b)
			}
			return out
		}
	}
})

// The words of this file lead where the chapters and RFC 8032 say.
func TestOracle(t *testing.T) {
	t.Parallel()
	if !p.ProbablyPrime(20) || !order.ProbablyPrime(20) || new(big.Int).ModSqrt(d, p) != nil {
		t.Error("p or L is no prime, or d has a root")
	}
	if base.bytes() != "\x58"+strings.Repeat("\x66", 31) || !base.times(order).is(zero) || !baseTimes(order).is(zero) || base.is(zero) {
		t.Errorf("base: %x", base.bytes())
	}
	orders := []int64{1, 8, 4, 8, 2, 8, 4, 8}
	for i, a := range eight() {
		if !a.times(big.NewInt(orders[i])).is(zero) || orders[i] > 1 && a.times(big.NewInt(orders[i]/2)).is(zero) {
			t.Errorf("point %d of the eight is not of order %d", i, orders[i])
		}
		if got, is := pointOf(a.bytes()); !is || !got.is(a) || !a.plus(a.contrary()).is(zero) {
			t.Errorf("point %d of the eight: %x, %t", i, a.bytes(), is)
		}
	}
	for i, seed := range seeds(1, 20) {
		key, sig := keyOf(seed), signed(seed, mixed(i))
		if e := verified(key, mixed(i), sig); e != api.OK {
			t.Errorf("the library's signature by %x: %d", seed, e)
		}
		if e := verified(key, mixed(i+1), sig); e != api.ErrSig {
			t.Errorf("the library's signature by %x, of another message: %d", seed, e)
		}
	}
}
