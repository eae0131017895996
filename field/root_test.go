package field_test

import (
	"math/big"
	"testing"

	"imprimatur/api"
	"imprimatur/field"
)

// P4.2: the inverse of what counts as 0 is 0; that of 1 and of p - 1 is the number.
func TestInvOfKnownNumbers(t *testing.T) {
	for _, c := range []struct{ in, want api.Fe }{
		{api.Fe{0}, api.Fe{0}},
		{timesPrime(1, 0), api.Fe{0}},
		{timesPrime(2, 0), api.Fe{0}},
		{api.Fe{1}, api.Fe{1}},
		{timesPrime(1, 1), api.Fe{1}},
		{timesPrime(2, 1), api.Fe{1}},
		{timesPrime(1, -1), timesPrime(1, -1)},
		{timesPrime(2, -1), timesPrime(1, -1)},
		{api.Fe{2}, fe(minusOf(new(big.Int).Rsh(prime(), 1), -1))}, // (p + 1) / 2
	} {
		if got := field.Inv(c.in); got != c.want {
			t.Errorf("Inv(%x): %x, not %x", c.in, got, c.want)
		}
	}
}

// P4.2: the inverse of any number is the library's, and its product with the number counts as 1.
func TestInv(t *testing.T) {
	for _, x := range numbers() {
		got := field.Inv(x)
		if field.Least(x) == (api.Fe{}) {
			if got != (api.Fe{}) {
				t.Errorf("Inv(%x): %x, not 0", x, got)
			}
			continue
		}
		if want := fe(new(big.Int).ModInverse(great(x), prime())); got != want {
			t.Errorf("Inv(%x): %x, not %x", x, got, want)
		}
		if one := field.Mul(got, x); one != (api.Fe{1}) {
			t.Errorf("Inv(%x) with it: %x", x, one)
		}
	}
}

// P4.2: known roots, the chapter's examples among them, and of each the numbers that count alike.
func TestSqrtOfKnownNumbers(t *testing.T) {
	minusOne, _ := new(big.Int).SetString("2b8324804fc1df0b2b4d00993dfbd7a72f431806ad2fe478c4ee1b274a0ea0b0", 16)
	for _, c := range []struct {
		times, more int64
		want        api.Fe
		ok          bool
	}{
		{0, 0, api.Fe{0}, true},
		{0, 1, timesPrime(1, -1), true}, // 1 is odd
		{0, 2, api.Fe{}, false},
		{0, 4, api.Fe{2}, true},
		{0, 9, timesPrime(1, -3), true},
		{0, 16, api.Fe{4}, true},
		{0, 25, timesPrime(1, -5), true},
		{0, 36, api.Fe{6}, true},
		{0, 8, api.Fe{}, false},
		{1, -1, fe(minusOne), true},
		{1, -2, api.Fe{}, false},
		{1, -4, fe(new(big.Int).Lsh(minusOne, 1)), true}, // it is below p
	} {
		for up := int64(0); c.times+up < 2 || c.times+up == 2 && c.more < 38; up++ {
			x := timesPrime(c.times+up, c.more)
			if got, ok := field.Sqrt(x); got != c.want || ok != c.ok {
				t.Errorf("Sqrt(%x): %x, %t, not %x, %t", x, got, ok, c.want, c.ok)
			}
		}
	}
}

// P4.2: whether there is a root, and which, of any number, is as the library finds.
func TestSqrt(t *testing.T) {
	with, without := 0, 0
	for _, x := range numbers() {
		got, ok := field.Sqrt(x)
		want, is := rootOf(great(x))
		if got != want || ok != is {
			t.Errorf("Sqrt(%x): %x, %t, not %x, %t", x, got, ok, want, is)
		}
		if ok {
			with++
		} else {
			without++
		}
	}
	if with < 100 || without < 100 {
		t.Errorf("%d roots, and %d numbers without", with, without)
	}
}

// P4.2: of the two roots of a square the even one is answered, whichever of them was squared.
func TestSqrtOfSquares(t *testing.T) {
	even, odd := 0, 0
	for _, x := range numbers() {
		one := field.Least(x)
		other := field.Sub(api.Fe{}, one)
		want := one
		if one[0]%2 == 1 {
			want = other
			odd++
		} else {
			even++
		}
		for _, root := range []api.Fe{one, other, x} {
			if got, ok := field.Sqrt(field.Mul(root, root)); got != want || !ok {
				t.Errorf("Sqrt of the square of %x: %x, %t, not %x", root, got, ok, want)
			}
		}
	}
	if even < 100 || odd < 100 {
		t.Errorf("%d even numbers, %d odd ones", even, odd)
	}
}

// P4.2: both kinds of squares have their roots found: those whose power (p - 1) / 4 is 1, and those of which it is p - 1.
func TestSqrtOfBothKinds(t *testing.T) {
	p := prime()
	kinds := map[api.Fe]int{}
	for n := int64(1); n < 400; n++ {
		square := new(big.Int).Mul(big.NewInt(n), big.NewInt(n))
		kinds[fe(new(big.Int).Exp(square, new(big.Int).Rsh(p, 2), p))]++
		want, _ := rootOf(square)
		if got, ok := field.Sqrt(fe(square)); got != want || !ok {
			t.Errorf("Sqrt(%d): %x, %t, not %x", square, got, ok, want)
		}
	}
	if len(kinds) != 2 || kinds[api.Fe{1}] < 100 || kinds[timesPrime(1, -1)] < 100 {
		t.Errorf("the squares are of the kinds %x", kinds)
	}
}
