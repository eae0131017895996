package point_test

import (
	"crypto/ed25519"
	"crypto/sha512"
	"math/big"
	"math/rand"
	"slices"
	"testing"

	"imprimatur/api"
	"imprimatur/point"
)

// added is the sum of two points that may be.
func added(t *testing.T, a, b api.Point) api.Point {
	t.Helper()
	out, e := point.Add(a, b)
	if e != api.OK || !point.Right(out) {
		t.Errorf("Add(%x, %x): %x, %d", a, b, out, e)
	}
	return out
}

// multiplied is n times a point that may be.
func multiplied(t *testing.T, n *big.Int, a api.Point) api.Point {
	t.Helper()
	out, e := point.Mul(sc(n), a)
	if e != api.OK || !point.Right(out) {
		t.Errorf("Mul(%x, %x): %x, %d", n, a, out, e)
	}
	return out
}

// P6.3: sums of any three points do not hang on order or brackets.
func TestOrderAndBrackets(t *testing.T) {
	list := []api.Point{}
	for i, a := range points()[:20] {
		list = append(list, a.told(someZ()[i%5]))
	}
	for _, a := range list {
		for _, b := range list {
			ab := added(t, a, b)
			if ba := added(t, b, a); !point.Same(ab, ba) {
				t.Errorf("%x and %x: %x, the other way round %x", a, b, ab, ba)
			}
			for _, c := range list {
				if one, other := added(t, ab, c), added(t, a, added(t, b, c)); !point.Same(one, other) {
					t.Errorf("%x, %x and %x: %x, with other brackets %x", a, b, c, one, other)
				}
			}
		}
	}
}

// P6.3: Zero adds nothing, and a point and its contrary are Zero.
func TestZeroAndContraries(t *testing.T) {
	for _, a := range points() {
		for _, z := range someZ() {
			q := a.told(z)
			if got := added(t, q, point.Zero()); !point.Same(got, q) {
				t.Errorf("%x and Zero: %x", q, got)
			}
			if got := added(t, zero.told(z), q); !point.Same(got, q) {
				t.Errorf("Zero, told by %x, and %x: %x", z, q, got)
			}
			no, e := point.Neg(q)
			if got := added(t, q, no); !point.Same(got, point.Zero()) || e != api.OK {
				t.Errorf("%x and its contrary: %x, %d", q, got, e)
			}
			if back, e := point.Neg(no); !point.Same(back, q) || e != api.OK {
				t.Errorf("the contrary of the contrary of %x: %x, %d", q, back, e)
			}
			most := multiplied(t, moreBy(powerOfTwo(256), -1), q)
			if got := added(t, most, q); !xyOf(got).is(a.times(powerOfTwo(256))) {
				t.Errorf("2^256 - 1 times %x, and it: %x", q, got)
			}
		}
	}
}

// P6.3: L times the base point is Zero, and so it goes round.
func TestOrderOfBase(t *testing.T) {
	below, err := point.Neg(point.Base())
	if err != api.OK {
		t.Errorf("the contrary of Base: %d", err)
	}
	for times := int64(1); times <= 15; times++ {
		n := new(big.Int).Mul(order, big.NewInt(times))
		for more, want := range map[int64]api.Point{-1: below, 0: point.Zero(), 1: point.Base()} {
			if got := multiplied(t, moreBy(n, more), point.Base()); !point.Same(got, want) {
				t.Errorf("%d times L, and %d, of Base: %x", times, more, got)
			}
		}
	}
	for _, n := range []int64{1, 2, 3, 4, 5, 7, 8, 16, 1 << 40} {
		if got := multiplied(t, big.NewInt(n), point.Base()); point.Same(got, point.Zero()) {
			t.Errorf("%d times Base is Zero", n)
		}
	}
}

// P6.1, P6.3: a sum of numbers times a point is the sum of both times it, and a product of numbers one of them times the other one times it.
func TestMulOfSumsAndProducts(t *testing.T) {
	r := rand.New(rand.NewSource(5))
	for i := range 150 {
		q := points()[i%len(points())].told(someZ()[i%5])
		one := new(big.Int).Rand(r, powerOfTwo(255))
		other := new(big.Int).Rand(r, powerOfTwo(uint(1+r.Intn(255))))
		want := added(t, multiplied(t, one, q), multiplied(t, other, q))
		if got := multiplied(t, sum(one, other), q); !point.Same(got, want) {
			t.Errorf("%x and %x times %x: %x, one by one %x", one, other, q, got, want)
		}
		half, rest := new(big.Int).Rand(r, powerOfTwo(128)), new(big.Int).Rand(r, powerOfTwo(128))
		want = multiplied(t, half, multiplied(t, rest, q))
		if got := multiplied(t, new(big.Int).Mul(half, rest), q); !point.Same(got, want) {
			t.Errorf("%x times %x times %x: %x, one behind the other %x", half, rest, q, got, want)
		}
	}
	for _, n := range edgeNumbers() {
		q := base.plus(eight()[5]).point()
		if n = moreBy(n, 1); n.BitLen() > 256 {
			continue
		}
		if got, want := multiplied(t, n, q), added(t, multiplied(t, moreBy(n, -1), q), q); !point.Same(got, want) {
			t.Errorf("%x times %x: %x, not %x", n, q, got, want)
		}
	}
}

// P6.3: what is written is parsed; what is parsed, written, is the text.
func TestWrittenAndParsed(t *testing.T) {
	for i, n := range anyNumbers(6, 100) {
		q := multiplied(t, n, points()[i%len(points())].told(someZ()[i%5]))
		s, e := point.Bytes(q)
		if e != api.OK || len(s) != 32 {
			t.Errorf("Bytes(%x): %x, %d", q, s, e)
		}
		got, e := point.Parse(s)
		if e != api.OK || !point.Same(got, q) || got.Z != (api.Fe{1}) {
			t.Errorf("%x, written and parsed: %x, %d", q, got, e)
		}
		if again, e := point.Bytes(got); again != s || e != api.OK {
			t.Errorf("%x, parsed and written: %x, %d", s, again, e)
		}
	}
}

// P6.1, P6.3: the keys that Go's library makes of seeds are the bytes of the base point, as often as RFC 8032 says.
func TestKeysOfTheLibrary(t *testing.T) {
	r := rand.New(rand.NewSource(7))
	for range 100 {
		seed := make([]byte, 32)
		r.Read(seed)
		full := sha512.Sum512(seed)
		b := slices.Clone(full[:32])
		b[0] &= 248
		b[31] = b[31]&127 | 64
		slices.Reverse(b)
		q := multiplied(t, new(big.Int).SetBytes(b), point.Base())
		want := string(ed25519.NewKeyFromSeed(seed)[32:])
		if got, e := point.Bytes(q); got != want || e != api.OK {
			t.Errorf("the key of seed %x: %x, %d, not %x", seed, got, e, want)
		}
	}
}

// R1, R4: no call keeps anything, or changes what it was handed.
func TestNothingIsKept(t *testing.T) {
	q, n := base.plus(eight()[1]).told(someZ()[4]), sc(moreBy(order, 12345))
	wasQ, wasN := q, n
	round := func() [6]api.Point {
		no, _ := point.Neg(q)
		more, _ := point.Add(q, point.Base())
		often, _ := point.Mul(n, q)
		s, _ := point.Bytes(q)
		back, _ := point.Parse(s)
		return [6]api.Point{no, more, often, back, point.Zero(), point.Base()}
	}
	first := round()
	point.Mul(api.Sc{all, all, all, all}, point.Base())
	point.Add(api.Point{}, q)
	point.Parse("no point")
	if again := round(); again != first || q != wasQ || n != wasN {
		t.Errorf("first %x, then %x, of %x and %x", first, again, q, n)
	}
}

// someWords are four of bytes, however many there are of these.
func someWords(b []byte) [4]uint64 {
	row := make([]byte, 32)
	copy(row, b)
	slices.Reverse(row)
	return words(new(big.Int).SetBytes(row))
}

// P1, P6.1 to P6.3: no call panics, whatever it is handed, and each answers what the library's numbers reckon.
func FuzzAnyBytes(f *testing.F) {
	for _, a := range points() {
		f.Add([]byte(a.bytes()), []byte(written(order)), []byte{9})
		f.Add([]byte(a.bytes()), []byte(base.bytes()), []byte{})
	}
	f.Add([]byte{}, []byte{1, 2, 3}, []byte("more than thirty-two bytes, that are a number of no kind"))
	f.Fuzz(func(t *testing.T, one, two, three []byte) {
		q := api.Point{X: someWords(one), Y: someWords(two), Z: someWords(three), T: someWords(append(slices.Clone(one), two...))}
		if right := len(faults(q)) == 0; point.Right(q) != right || point.Same(q, q) != right {
			t.Errorf("Right(%x), in spite of %v", q, faults(q))
		}
		if len(one) != 32 {
			if got, e := point.Parse(string(one)); got != (api.Point{}) || e != api.ErrArg {
				t.Errorf("Parse of %d bytes: %x, %d, not ErrArg", len(one), got, e)
			}
			return
		}
		n := great(someWords(one))
		if y := new(big.Int).And(n, moreBy(powerOfTwo(255), -1)); !parsed(t, y, n.Bit(255) == 1) {
			return
		}
		a, _ := point.Parse(string(one))
		number, z := great(someWords(two)), great(someWords(three))
		if times(z).Sign() != 0 {
			a = xyOf(a).told(z)
		}
		got, e := point.Mul(sc(number), a)
		isPoint(t, got, e, xyOf(a).times(number), "Mul", number, a)
		got, e = point.Add(a, got)
		isPoint(t, got, e, xyOf(a).times(moreBy(number, 1)), "Add", number, a)
	})
}
