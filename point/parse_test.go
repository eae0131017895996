package point_test

import (
	"math/big"
	"math/rand"
	"strings"
	"testing"

	"imprimatur/api"
	"imprimatur/point"
)

// marked is a number below 2^255 in 32 bytes, with the highest bit or without it.
func marked(n *big.Int, high bool) string {
	b := []byte(written(n))
	if high {
		b[31] |= 128
	}
	return string(b)
}

// parsed tells of what is wrong with the point of 32 bytes, and whether there was one.
func parsed(t *testing.T, y *big.Int, high bool) bool {
	t.Helper()
	s := marked(y, high)
	got, e := point.Parse(s)
	a, is := atY(y)
	if y.Cmp(p) >= 0 || !is || a.x.Sign() == 0 && high {
		if got != (api.Point{}) || e != api.ErrPoint {
			t.Errorf("Parse of %x: %x, %d, not ErrPoint", s, got, e)
		}
		return false
	}
	if high {
		a = a.contrary()
	}
	// With a Z of 1, nothing is left to choose.
	if got != a.point() || e != api.OK {
		t.Errorf("Parse of %x: %x, %d, not %x", s, got, e, a)
	}
	if again, e := point.Bytes(got); again != s || e != api.OK {
		t.Errorf("Bytes of what %x was parsed as: %x, %d", s, again, e)
	}
	return true
}

// P6.2: a text of another length is refused, whatever it holds, with nothing beside.
func TestParseOfOtherLengths(t *testing.T) {
	var texts []string
	for n := range 100 {
		if n != 32 {
			for _, letter := range []string{"\x00", "\x01", "\x66", "\xff"} {
				texts = append(texts, strings.Repeat(letter, n))
			}
		}
	}
	b := base.bytes()
	texts = append(texts, b[1:], b[:31], b+"\x00", "\x00"+b, b+b, zero.bytes()[:31], zero.bytes()+zero.bytes(), strings.Repeat("\x00", api.MaxText))
	for _, s := range texts {
		if got, e := point.Parse(s); got != (api.Point{}) || e != api.ErrArg {
			t.Errorf("Parse of %d bytes %.40x: %x, %d, not ErrArg", len(s), s, got, e)
		}
	}
}

// P6.2: texts told by their numbers, each with the highest bit and without it.
func TestParseOfKnownNumbers(t *testing.T) {
	for _, c := range []struct {
		name string
		y    *big.Int
		low  bool // whether there is a point without the highest bit
		high bool
	}{
		{"0", big.NewInt(0), true, true},
		{"1", big.NewInt(1), true, false}, // x is 0
		{"2", big.NewInt(2), false, false},
		{"3", big.NewInt(3), true, true},
		{"4 / 5", base.y, true, true},
		{"p - 1", moreBy(p, -1), true, false}, // x is 0
		{"p", p, false, false},
		{"p + 1", moreBy(p, 1), false, false},
		{"2^255 - 1", moreBy(powerOfTwo(255), -1), false, false},
	} {
		for high, want := range map[bool]bool{false: c.low, true: c.high} {
			got, e := point.Parse(marked(c.y, high))
			if is := e == api.OK; is != want || is != parsed(t, c.y, high) {
				t.Errorf("y %s, with the highest bit %t: %x, %d", c.name, high, got, e)
			}
			if odd := got.X[0]%2 == 1; want && odd != high {
				t.Errorf("y %s, with the highest bit %t: x is %x", c.name, high, got.X)
			}
		}
	}
}

// P6.2: each y of p or more, and those about p and about powers of two.
func TestParseAboutEdges(t *testing.T) {
	for _, high := range []bool{false, true} {
		for more := int64(0); more < 19; more++ {
			if parsed(t, moreBy(p, more), high) {
				t.Errorf("a point for p + %d", more)
			}
		}
		points := 0
		for n := int64(0); n < 300; n++ {
			for _, y := range []*big.Int{big.NewInt(n), moreBy(p, -1-n)} {
				if parsed(t, y, high) {
					points++
				}
			}
		}
		for bit := range uint(255) {
			for more := int64(-1); more <= 1; more++ {
				if parsed(t, moreBy(powerOfTwo(bit), more), high) {
					points++
				}
			}
		}
		if points < 500 || points > 900 {
			t.Errorf("points for %d small or great y, with the highest bit: %t", points, high)
		}
	}
}

// P6.2: any y of those below 2^255: about half of them have points.
func TestParseOfAnyNumbers(t *testing.T) {
	r := rand.New(rand.NewSource(4))
	points := 0
	for range 2000 {
		if parsed(t, new(big.Int).Rand(r, powerOfTwo(255)), r.Intn(2) == 1) {
			points++
		}
	}
	if points < 900 || points > 1100 {
		t.Errorf("points for %d of 2000 y", points)
	}
}

// P6.2: of all texts of 32 bytes, those of points that are known are parsed as these.
func TestParseOfPoints(t *testing.T) {
	for _, a := range points() {
		for _, b := range []xy{a, a.contrary()} {
			got, e := point.Parse(b.bytes())
			if got != b.point() || e != api.OK {
				t.Errorf("Parse of %x: %x, %d, not %x", b.bytes(), got, e, b)
			}
		}
	}
}
