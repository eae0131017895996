package point_test

import (
	"encoding/binary"
	"encoding/hex"
	"fmt"
	"math/big"
	"math/rand"
	"slices"
	"sync"
	"testing"

	"imprimatur/api"
)

const (
	all = ^uint64(0) // a word of ones
	top = 1 << 63
)

// xy is a point by its two coordinates, with which the document's own words reckon.
type xy struct{ x, y *big.Int }

// Format tells it in hexadecimal digits, whatever is asked for.
func (a xy) Format(f fmt.State, _ rune) {
	fmt.Fprintf(f, "(%x, %x)", a.x, a.y)
}

func powerOfTwo(n uint) *big.Int {
	return new(big.Int).Lsh(big.NewInt(1), n)
}

func moreBy(x *big.Int, n int64) *big.Int {
	return new(big.Int).Add(x, big.NewInt(n))
}

// p is the number that those of the field count modulo, order is L, d is that of the curve, all from what the chapters say of them.
var (
	p     = moreBy(powerOfTwo(255), -19)
	order = sum(powerOfTwo(252), number("27742317777372353535851937790883648493"))
	d     = over(big.NewInt(-121665), big.NewInt(121666))
)

func number(digits string) *big.Int {
	n, _ := new(big.Int).SetString(digits, 10)
	return n
}

func sum(a, b *big.Int) *big.Int {
	return new(big.Int).Add(a, b)
}

func times(list ...*big.Int) *big.Int {
	out := big.NewInt(1)
	for _, n := range list {
		out.Mod(out.Mul(out, n), p)
	}
	return out
}

func over(a, b *big.Int) *big.Int {
	return times(a, new(big.Int).ModInverse(new(big.Int).Mod(b, p), p))
}

func minus(a *big.Int) *big.Int {
	return new(big.Int).Mod(new(big.Int).Neg(a), p)
}

// onCurve tells whether -x^2 + y^2 counts as 1 + d x^2 y^2.
func (a xy) onCurve() bool {
	left := sum(minus(times(a.x, a.x)), times(a.y, a.y))
	right := moreBy(times(d, a.x, a.x, a.y, a.y), 1)
	return new(big.Int).Mod(left, p).Cmp(new(big.Int).Mod(right, p)) == 0
}

func (a xy) is(b xy) bool {
	return a.x.Cmp(b.x) == 0 && a.y.Cmp(b.y) == 0
}

// plus is the document's sum.
func (a xy) plus(b xy) xy {
	rest := times(d, a.x, b.x, a.y, b.y)
	return xy{
		over(sum(times(a.x, b.y), times(b.x, a.y)), moreBy(rest, 1)),
		over(sum(times(a.y, b.y), times(a.x, b.x)), moreBy(minus(rest), 1)),
	}
}

func (a xy) contrary() xy {
	return xy{minus(a.x), a.y}
}

// times is the sum of all the point's doubles for which n has a bit, from the lowest one on.
func (a xy) times(n *big.Int) xy {
	out := zero
	for i := range n.BitLen() {
		if n.Bit(i) == 1 {
			out = out.plus(a)
		}
		a = a.plus(a)
	}
	return out
}

// bytes are y's, with 128 added to the last one, if x is odd.
func (a xy) bytes() string {
	out := []byte(written(a.y))
	out[31] += 128 * byte(a.x.Bit(0))
	return string(out)
}

// told is the point by four numbers, with that Z.
func (a xy) told(z *big.Int) api.Point {
	return api.Point{X: fe(times(a.x, z)), Y: fe(times(a.y, z)), Z: fe(times(z)), T: fe(times(a.x, a.y, z))}
}

// point is it with a Z of 1.
func (a xy) point() api.Point {
	return a.told(big.NewInt(1))
}

// atY is the point of that y whose x is even, if there is one.
func atY(y *big.Int) (xy, bool) {
	square := times(y, y)
	x := new(big.Int).ModSqrt(over(moreBy(square, -1), moreBy(times(d, square), 1)), p)
	if x == nil {
		return xy{}, false
	}
	if x.Bit(0) == 1 {
		x = minus(x)
	}
	return xy{x, y}, true
}

// xyOf are the coordinates of four numbers.
func xyOf(q api.Point) xy {
	return xy{over(great(q.X), great(q.Z)), over(great(q.Y), great(q.Z))}
}

// great is the number of four words.
func great(x [4]uint64) *big.Int {
	b := make([]byte, 32)
	for i, w := range x {
		binary.BigEndian.PutUint64(b[24-8*i:], w)
	}
	return new(big.Int).SetBytes(b)
}

// words are those of a number from 0 to 2^256 - 1.
func words(n *big.Int) [4]uint64 {
	b := n.FillBytes(make([]byte, 32))
	var x [4]uint64
	for i := range x {
		x[i] = binary.BigEndian.Uint64(b[24-8*i:])
	}
	return x
}

func fe(n *big.Int) api.Fe { return words(n) }

func sc(n *big.Int) api.Sc { return words(n) }

// written are 32 bytes of a number, the lowest first.
func written(n *big.Int) string {
	b := n.FillBytes(make([]byte, 32))
	slices.Reverse(b)
	return string(b)
}

func unhex(s string) string {
	b, err := hex.DecodeString(s)
	if err != nil {
		panic(err)
	}
	return string(b)
}

var (
	zero = xy{big.NewInt(0), big.NewInt(1)}
	base = func() xy {
		out, _ := atY(over(big.NewInt(4), big.NewInt(5)))
		return out
	}()
)

// eight are one point of order 8, 0 to 7 times: Zero, all points of orders 2 and 4, and those of order 8.
var eight = sync.OnceValue(func() []xy {
	for y := int64(2); ; y++ {
		a, is := atY(big.NewInt(y))
		if !is {
			continue
		}
		if a = a.times(order); !a.times(big.NewInt(4)).is(zero) {
			var out []xy
			for b := zero; len(out) < 8; b = b.plus(a) {
				out = append(out, b)
			}
			return out
		}
	}
})

// points are Zero, the base point, some of its multiples, all points of which 8 times is Zero, sums of these with multiples of the base point, and points of any y, which mostly are no multiples of it either.
var points = sync.OnceValue(func() []xy {
	list := slices.Clone(eight())
	for _, n := range []*big.Int{big.NewInt(1), big.NewInt(2), big.NewInt(3), moreBy(order, -1), number("123456789012345678901234567890")} {
		list = append(list, base.times(n))
	}
	for _, a := range eight()[1:] {
		list = append(list, base.plus(a))
	}
	r := rand.New(rand.NewSource(1))
	for len(list) < 28 {
		if a, is := atY(new(big.Int).Rand(r, p)); is {
			list = append(list, a)
		}
	}
	return list
})

// someZ are a few by which one point is told.
func someZ() []*big.Int {
	return []*big.Int{big.NewInt(1), big.NewInt(2), moreBy(p, -1), moreBy(powerOfTwo(200), 77), number("31415926535897932384626433832795028841971693993751058209749445923078164062862")}
}

// isPoint tells of what is wrong with a call's answer, if it is not this point.
func isPoint(t *testing.T, got api.Point, e api.Errno, want xy, call string, of ...any) {
	t.Helper()
	switch {
	case e != api.OK:
		t.Errorf("%s%x: error %d", call, of, e)
	case len(faults(got)) > 0:
		t.Errorf("%s%x: %x, that may not be: %v", call, of, got, faults(got))
	case !xyOf(got).is(want):
		t.Errorf("%s%x: %x, not the point of %x", call, of, got, want)
	}
}

// faults are all reasons for which four numbers are no point.
func faults(q api.Point) []string {
	var out []string
	for i, n := range []api.Fe{q.X, q.Y, q.Z, q.T} {
		if great(n).Cmp(p) >= 0 {
			out = append(out, []string{"X", "Y", "Z", "T"}[i]+" of p or more")
		}
	}
	if times(great(q.X), great(q.Y)).Cmp(times(great(q.Z), great(q.T))) != 0 {
		out = append(out, "X Y is not Z T")
	}
	if times(great(q.Z)).Sign() == 0 {
		return append(out, "Z of 0")
	}
	if !xyOf(q).onCurve() {
		out = append(out, "the equation")
	}
	return out
}

// The words of this file lead where the chapter and RFC 8032 say.
func TestOracle(t *testing.T) {
	if !p.ProbablyPrime(20) || !order.ProbablyPrime(20) || new(big.Int).ModSqrt(d, p) != nil {
		t.Error("p or L is no prime, or d has a root")
	}
	if base.x.Cmp(number("15112221349535400772501151409588531511454012693041857206046113283949847762202")) != 0 || base.y.Cmp(number("46316835694926478169428394003475163141307993866256225615783033603165251855960")) != 0 {
		t.Errorf("base: %x", base)
	}
	if !base.times(order).is(zero) || base.is(zero) {
		t.Error("L times the base point is not Zero")
	}
	if got := eight()[1].times(big.NewInt(8)); !got.is(zero) {
		t.Errorf("8 times a point of order 8: %x", got)
	}
	for i, a := range eight() {
		for _, b := range eight()[:i] {
			if a.is(b) {
				t.Errorf("points of the eight are alike: %x", a)
			}
		}
	}
	if two := eight()[4]; two.x.Sign() != 0 || two.y.Cmp(moreBy(p, -1)) != 0 || eight()[2].y.Sign() != 0 || eight()[6].y.Sign() != 0 {
		t.Errorf("the points of orders 2 and 4: %x, %x, %x", two, eight()[2], eight()[6])
	}
	others := 0
	for _, a := range points() {
		for _, z := range someZ() {
			if q := a.told(z); len(faults(q)) > 0 || !xyOf(q).is(a) {
				t.Errorf("%x, told by %x: %x, %v", a, z, q, faults(q))
			}
		}
		if !a.times(order).is(zero) {
			others++
		}
	}
	if others < 14 {
		t.Errorf("%d points are no multiples of the base point", others)
	}
}
