package point_test

import (
	"encoding/hex"
	"math/big"
	"math/rand"
	"slices"
	"testing"

	"imprimatur/api"
	"imprimatur/point"
)

// P6.1: sums of each two of all points, the eight with each other, with themselves and with their contraries among them, by whatever Z they are told.
func TestAdd(t *testing.T) {
	turn := 0
	for _, a := range points() {
		for _, b := range append(slices.Clone(points()), a.contrary()) {
			want := a.plus(b)
			for range 3 {
				turn++
				y, z := someZ()[turn%5], someZ()[turn/5%5]
				got, e := point.Add(a.told(y), b.told(z))
				isPoint(t, got, e, want, "Add", a, b, y, z)
			}
			got, e := point.Add(a.point(), b.point())
			isPoint(t, got, e, want, "Add", a, b)
		}
	}
}

// P6.1: the eight points of which 8 times is Zero add like their places in the row.
func TestAddOfTheEight(t *testing.T) {
	for i, a := range eight() {
		for j, b := range eight() {
			got, e := point.Add(a.point(), b.point())
			isPoint(t, got, e, eight()[(i+j)%8], "Add", i, j)
		}
		got, e := point.Neg(a.point())
		isPoint(t, got, e, eight()[(8-i)%8], "Neg", i)
	}
}

// P6.1: a contrary is -x, and y.
func TestNeg(t *testing.T) {
	for _, a := range points() {
		for _, z := range someZ() {
			got, e := point.Neg(a.told(z))
			isPoint(t, got, e, a.contrary(), "Neg", a, z)
		}
	}
}

// P6.1: bytes of any point, by whatever Z it is told, are those of y, with 128 added to the last one, if x is odd.
func TestBytes(t *testing.T) {
	odd := 0
	for _, a := range points() {
		for _, b := range []xy{a, a.contrary()} {
			for _, z := range someZ() {
				if got, e := point.Bytes(b.told(z)); got != b.bytes() || e != api.OK {
					t.Errorf("Bytes(%x, told by %x): %x, %d, not %x", b, z, got, e, b.bytes())
				}
			}
			odd += int(b.x.Bit(0))
		}
	}
	if odd < 20 {
		t.Errorf("%d points had an odd x", odd)
	}
}

// P6.1: bytes that others tell: the chapter's example, its contrary, and the base point some times.
func TestKnownBytes(t *testing.T) {
	made := func(q api.Point, e api.Errno) api.Point {
		if e != api.OK {
			t.Errorf("a multiple of Base: error %d", e)
		}
		return q
	}
	for _, c := range []struct {
		q    api.Point
		want string
	}{
		{point.Zero(), "0100000000000000000000000000000000000000000000000000000000000000"},
		{point.Base(), "5866666666666666666666666666666666666666666666666666666666666666"},
		{made(point.Neg(point.Base())), "58666666666666666666666666666666666666666666666666666666666666e6"},
		{made(point.Add(point.Base(), point.Base())), "c9a3f86aae465f0e56513864510f3997561fa2c9e85ea21dc2292309f3cd6022"},
		{made(point.Mul(api.Sc{2}, point.Base())), "c9a3f86aae465f0e56513864510f3997561fa2c9e85ea21dc2292309f3cd6022"},
		{made(point.Mul(api.Sc{3}, point.Base())), "d4b4f5784868c3020403246717ec169ff79e26608ea126a1ab69ee77d1b16712"},
	} {
		if got, e := point.Bytes(c.q); got != unhex(c.want) || e != api.OK {
			t.Errorf("Bytes(%x): %x, %d, not %s", c.q, got, e, c.want)
		}
		if got, e := point.Parse(unhex(c.want)); e != api.OK || !point.Same(got, c.q) {
			t.Errorf("Parse of %s: %x, %d, not %x", c.want, got, e, c.q)
		}
	}
}

// P6.1: the bytes of the eight points of which 8 times is Zero, by their orders.
func TestKnownBytesOfTheEight(t *testing.T) {
	known := map[string]int{
		"0100000000000000000000000000000000000000000000000000000000000000": 1,
		"ecffffffffffffffffffffffffffffffffffffffffffffffffffffffffffff7f": 2,
		"0000000000000000000000000000000000000000000000000000000000000000": 4,
		"0000000000000000000000000000000000000000000000000000000000000080": 4,
		"26e8958fc2b227b045c3f489f2ef98f0d5dfac05d3c63339b13802886d53fc05": 8,
		"26e8958fc2b227b045c3f489f2ef98f0d5dfac05d3c63339b13802886d53fc85": 8,
		"c7176a703d4dd84fba3c0b760d10670f2a2053fa2c39ccc64ec7fd7792ac037a": 8,
		"c7176a703d4dd84fba3c0b760d10670f2a2053fa2c39ccc64ec7fd7792ac03fa": 8,
	}
	for i, a := range eight() {
		s, e := point.Bytes(a.told(someZ()[i%5]))
		text := hex.EncodeToString([]byte(s))
		if want := []int{1, 8, 4, 8, 2, 8, 4, 8}[i]; known[text] != want || e != api.OK {
			t.Errorf("a point of order %d: %s, %d", want, text, e)
		}
		delete(known, text)
	}
	if len(known) > 0 {
		t.Errorf("bytes of no point: %v", known)
	}
}

// edgeNumbers are numbers at each place about which Mul may go wrong.
func edgeNumbers() []*big.Int {
	list := []*big.Int{powerOfTwo(255), moreBy(powerOfTwo(255), -1), moreBy(powerOfTwo(256), -1), moreBy(powerOfTwo(256), -2), p, moreBy(p, 1), powerOfTwo(252), times8(order), moreBy(times8(order), 1), moreBy(times8(order), -1), new(big.Int).Mul(order, big.NewInt(15))}
	for n := range int64(20) {
		list = append(list, big.NewInt(n))
	}
	for more := int64(-2); more <= 2; more++ {
		list = append(list, moreBy(order, more))
	}
	// Bits of each word: its lowest and its highest one, and all of them.
	for word := range uint(4) {
		list = append(list, powerOfTwo(64*word), powerOfTwo(64*word+1), powerOfTwo(64*word+63))
		ones := moreBy(powerOfTwo(64), -1)
		list = append(list, ones.Lsh(ones, 64*word))
	}
	return list
}

func times8(n *big.Int) *big.Int {
	return new(big.Int).Lsh(n, 3)
}

// anyNumbers are so many of up to 256 bits.
func anyNumbers(seed int64, count int) []*big.Int {
	r := rand.New(rand.NewSource(seed))
	list := make([]*big.Int, count)
	for i := range list {
		list[i] = new(big.Int).Rand(r, powerOfTwo(uint(r.Intn(257))))
	}
	return list
}

// P6.1: the edges of n times the base point, Zero, the eight, and points that are no multiples of the base point, told by a Z of 1 or another one, are what the document's sum makes, added up from n's lowest bit on.
func TestMulByEdges(t *testing.T) {
	for i, n := range edgeNumbers() {
		for j, a := range append(points()[:8:8], base, base.plus(eight()[1]), points()[24]) {
			z := someZ()[(i+j)%5]
			got, e := point.Mul(sc(n), a.told(z))
			isPoint(t, got, e, a.times(n), "Mul", n, a, z)
		}
	}
}

// P6.1: any numbers of times any points.
func TestMulByAnyNumbers(t *testing.T) {
	for i, n := range anyNumbers(2, 100) {
		a, z := points()[i%len(points())], someZ()[i%5]
		got, e := point.Mul(sc(n), a.told(z))
		isPoint(t, got, e, a.times(n), "Mul", n, a, z)
	}
}

// P6.1: each bit of a number counts, for the base point doubled so often as it says.
func TestMulByEachBit(t *testing.T) {
	for _, a := range []xy{base, base.plus(eight()[3]), points()[22]} {
		want := a
		for bit := range uint(256) {
			got, e := point.Mul(sc(powerOfTwo(bit)), a.point())
			isPoint(t, got, e, want, "Mul by 2^", bit, a)
			want = want.plus(want)
		}
	}
}

// P6.1: few times a point is the point added to itself so often, by Add and by the document's sum.
func TestMulByFew(t *testing.T) {
	for _, a := range points() {
		want, added := zero, point.Zero()
		for n := range uint64(40) {
			got, e := point.Mul(api.Sc{n}, a.point())
			isPoint(t, got, e, want, "Mul", n, a)
			if !point.Same(got, added) {
				t.Errorf("%d times %x: %x, added up %x", n, a, got, added)
			}
			want = want.plus(a)
			added, e = point.Add(added, a.point())
			isPoint(t, added, e, want, "Add", n, a)
		}
	}
}

// P6.1: n is not brought below L: of points of order 8 n leaves what it does divided by 8, and of others it is not 0 times, if it is L.
func TestMulIsNotBroughtBelowL(t *testing.T) {
	for _, n := range append(edgeNumbers(), anyNumbers(3, 10)...) {
		left := new(big.Int).And(n, big.NewInt(7)).Int64()
		for i, a := range eight() {
			got, e := point.Mul(sc(n), a.point())
			isPoint(t, got, e, eight()[int64(i)*left%8], "Mul", n, a)
			// A sum of one of the eight and the base point, as often, is the sum of both as often.
			got, e = point.Mul(sc(n), base.plus(a).point())
			rest := base.times(new(big.Int).Mod(n, order))
			isPoint(t, got, e, rest.plus(eight()[int64(i)*left%8]), "Mul", n, base.plus(a))
		}
	}
	for _, a := range eight()[1:] {
		got, e := point.Mul(sc(order), base.plus(a).point())
		if isPoint(t, got, e, a.times(order), "Mul", order, base.plus(a)); point.Same(got, point.Zero()) {
			t.Errorf("L times %x is Zero", base.plus(a))
		}
	}
}
