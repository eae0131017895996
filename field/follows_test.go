package field_test

import (
	"encoding/binary"
	"math/big"
	"testing"

	"imprimatur/api"
	"imprimatur/field"
)

// P4.4: of a number and twice it just one has a root, if it does not count as 0; else both have 0.
func TestJustOneHasARoot(t *testing.T) {
	it, twice := 0, 0
	for _, x := range numbers() {
		_, one := field.Sqrt(x)
		_, two := field.Sqrt(field.Add(x, x))
		if field.Least(x) == (api.Fe{}) {
			if !one || !two {
				t.Errorf("%x counts as 0, and has a root: %t, %t", x, one, two)
			}
			continue
		}
		if one == two || one != hasRoot(great(x)) {
			t.Errorf("%x has a root: %t, and twice it: %t", x, one, two)
		}
		if one {
			it++
		} else {
			twice++
		}
	}
	if it < 100 || twice < 100 {
		t.Errorf("%d numbers had a root, of %d others twice it had one", it, twice)
	}
}

// P4.4: each small number, told by its sums with itself and by products.
func TestJustOneOfSmallNumbers(t *testing.T) {
	for n := uint64(1); n < 300; n++ {
		_, one := field.Sqrt(field.Of(n))
		_, two := field.Sqrt(field.Of(2 * n))
		_, four := field.Sqrt(field.Mul(field.Of(2), field.Of(2*n)))
		if one == two || one != four {
			t.Errorf("%d, twice it and four times it have roots: %t, %t, %t", n, one, two, four)
		}
	}
}

// P4.4: what is written is parsed; what is parsed, written, is the text.
func TestWrittenAndParsed(t *testing.T) {
	for _, x := range numbers() {
		s := field.Bytes(x)
		got, e := field.Parse(s)
		if got != field.Least(x) || e != api.OK {
			t.Errorf("%x, written and parsed: %x, %d", x, got, e)
		}
		if again := field.Bytes(got); again != s {
			t.Errorf("%x, parsed and written: %x", s, again)
		}
	}
}

// P4.4: just one text of those that count alike is parsed.
func TestOneTextOfEachNumber(t *testing.T) {
	for n := range int64(19) {
		for times := range int64(2) {
			s := written(great(timesPrime(times, n)))
			got, e := field.Parse(s)
			if times == 0 && (e != api.OK || field.Bytes(got) != s) || times == 1 && e != api.ErrLong {
				t.Errorf("%d times p, and %d, parsed: %x, %d", times, n, got, e)
			}
		}
	}
}

// P4.1, P4.2, P4.3: numbers that count alike are answered alike, in every place of every call.
func TestWhatCountsAlike(t *testing.T) {
	for _, n := range []int64{0, 1, 2, 3, 4, 18, 19, 20, 37} {
		x := timesPrime(0, n)
		for times := int64(0); times < 3; times++ {
			like := timesPrime(times, n)
			root, ok := field.Sqrt(x)
			if got, is := field.Sqrt(like); got != root || is != ok {
				t.Errorf("Sqrt(%x): %x, %t, not %x, %t", like, got, is, root, ok)
			}
			if field.Least(like) != field.Least(x) || field.Inv(like) != field.Inv(x) || field.Bytes(like) != field.Bytes(x) {
				t.Errorf("%x and %x: Least %x, Inv %x, Bytes %x", x, like, field.Least(like), field.Inv(like), field.Bytes(like))
			}
			for _, c := range twoNumbers() {
				for _, y := range edges() {
					if c.call(like, y) != c.call(x, y) || c.call(y, like) != c.call(y, x) {
						t.Errorf("%s of %x, or of %x, with %x", c.name, x, like, y)
					}
				}
			}
		}
	}
}

// R1: no call keeps anything, or changes what it was handed.
func TestNothingIsKept(t *testing.T) {
	x, y := api.Fe{all, 1, all, all}, api.Fe{3, all, 0, top}
	wasX, wasY := x, y
	round := func() [7]api.Fe {
		root, _ := field.Sqrt(x)
		back, _ := field.Parse(field.Bytes(y))
		return [7]api.Fe{field.Least(x), field.Add(x, y), field.Sub(x, y), field.Mul(x, y), field.Inv(x), root, back}
	}
	first := round()
	field.Mul(field.Inv(api.Fe{5}), api.Fe{all, all, all, all})
	field.Parse("no number")
	if again := round(); again != first || x != wasX || y != wasY {
		t.Errorf("first %x, then %x, of %x and %x", first, again, x, y)
	}
}

// word is one of four in bytes, however many there are of these.
func word(b []byte, i int) uint64 {
	var row [32]byte
	copy(row[:], b)
	return binary.LittleEndian.Uint64(row[8*i:])
}

// P1, P4.1 to P4.4: no call panics, whatever it is handed, and each answers what the library reckons.
func FuzzAnyNumbers(f *testing.F) {
	for _, x := range []api.Fe{{0}, {1}, {2}, timesPrime(1, -1), timesPrime(1, 0), timesPrime(1, 1), timesPrime(2, 0), {all, all, all, all}, {3: top}} {
		f.Add([]byte(written(great(x))), []byte(written(prime())))
	}
	f.Add([]byte{}, []byte("a number of more than thirty-two bytes"))
	f.Fuzz(func(t *testing.T, one, two []byte) {
		var x, y api.Fe
		for i := range x {
			x[i], y[i] = word(one, i), word(two, i)
		}
		for _, c := range twoNumbers() {
			if got, want := c.call(x, y), least(c.want(new(big.Int), great(x), great(y))); got != want {
				t.Errorf("%s(%x, %x): %x, not %x", c.name, x, y, got, want)
			}
		}
		root, ok := field.Sqrt(x)
		if want, is := rootOf(great(x)); root != want || ok != is {
			t.Errorf("Sqrt(%x): %x, %t, not %x, %t", x, root, ok, want, is)
		}
		if inverse := field.Mul(x, field.Inv(x)); inverse != field.Of(1) && field.Least(x) != field.Of(0) {
			t.Errorf("Inv(%x) with it: %x", x, inverse)
		}
		got, e := field.Parse(string(one))
		switch {
		case len(one) != 32:
			if got != (api.Fe{}) || e != api.ErrArg {
				t.Errorf("Parse of %d bytes: %x, %d, not ErrArg", len(one), got, e)
			}
		case great(x).Cmp(prime()) >= 0:
			if got != (api.Fe{}) || e != api.ErrLong {
				t.Errorf("Parse of %x: %x, %d, not ErrLong", x, got, e)
			}
		case got != x || e != api.OK || field.Bytes(got) != string(one):
			t.Errorf("Parse of %x: %x, %d", x, got, e)
		}
	})
}
