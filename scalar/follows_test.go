package scalar_test

import (
	"math/big"
	"testing"

	"imprimatur/api"
	"imprimatur/scalar"
)

// P5.3: what is written is parsed; what is parsed, written, is the text.
func TestWrittenAndParsed(t *testing.T) {
	for _, x := range numbers() {
		s := scalar.Bytes(x)
		got, e := scalar.Parse(s)
		if got != scalar.Least(x) || e != api.OK {
			t.Errorf("%x, written and parsed: %x, %d", x, got, e)
		}
		if again := scalar.Bytes(got); again != s {
			t.Errorf("%x, parsed and written: %x", s, again)
		}
		if wide, e := scalar.Wide(s); wide != got || e != api.OK {
			t.Errorf("Wide of %x: %x, %d, not %x", s, wide, e, got)
		}
	}
}

// P5.3: just one text of those that count alike is parsed.
func TestOneTextOfEachNumber(t *testing.T) {
	for n := range int64(20) {
		for times := range int64(tallest + 1) {
			s := written(timesOrder(big.NewInt(times), n), 32)
			got, e := scalar.Parse(s)
			if times == 0 && (e != api.OK || scalar.Bytes(got) != s) || times > 0 && e != api.ErrScalar {
				t.Errorf("%d times L, and %d, parsed: %x, %d", times, n, got, e)
			}
		}
	}
}

// orderAndBrackets tells of sums and products of three numbers that hang on order or brackets.
func orderAndBrackets(t *testing.T, x, y, z api.Sc) {
	for _, c := range twoNumbers() {
		if one, other := c.call(x, y), c.call(y, x); one != other {
			t.Errorf("%s(%x, %x): %x, the other way round %x", c.name, x, y, one, other)
		}
		if one, other := c.call(c.call(x, y), z), c.call(x, c.call(y, z)); one != other {
			t.Errorf("%s of %x, %x, %x: %x, with other brackets %x", c.name, x, y, z, one, other)
		}
	}
	if one, other := scalar.Mul(x, scalar.Add(y, z)), scalar.Add(scalar.Mul(x, y), scalar.Mul(x, z)); one != other {
		t.Errorf("%x times the sum of %x and %x: %x, part by part %x", x, y, z, one, other)
	}
}

// P5.3: sums and products of any three numbers, and of edges, do not hang on order or brackets.
func TestOrderAndBrackets(t *testing.T) {
	one, two, three := someNumbers(8, 3000), someNumbers(9, 3000), someNumbers(10, 3000)
	for i := range one {
		orderAndBrackets(t, one[i], two[i], three[i])
	}
	list := []api.Sc{{0}, {1}, {2}, {all}, {3: 1 << 60}, {3: top}, {all, all, all, all}, {all, 0, all, 0}, orders(1, -1), orders(1, 0), orders(1, 1), orders(2, -1), orders(2, 0), orders(2, 1), orders(tallest, -1), orders(tallest, 0), orders(tallest, 1)}
	for _, x := range list {
		for _, y := range list {
			for _, z := range list {
				orderAndBrackets(t, x, y, z)
			}
		}
	}
}

// P5.3: 0 and 1 change no number but to its Least; L - 1 times it is what is lacking to L.
func TestZeroAndOne(t *testing.T) {
	for _, x := range numbers() {
		want := scalar.Least(x)
		if zero, one := scalar.Add(x, api.Sc{}), scalar.Mul(x, api.Sc{1}); zero != want || one != want {
			t.Errorf("%x with 0: %x, times 1: %x, not %x", x, zero, one, want)
		}
		if none := scalar.Add(x, scalar.Mul(x, orders(1, -1))); none != (api.Sc{}) {
			t.Errorf("%x with L - 1 times it: %x", x, none)
		}
	}
}

// P5.1, P5.2: numbers that leave the same are answered alike, in every place of every call.
func TestWhatLeavesTheSame(t *testing.T) {
	for _, n := range []int64{0, 1, 2, 3, 1000} {
		x := api.Sc{uint64(n)}
		for times := range int64(tallest + 1) {
			like := orders(times, n)
			if scalar.Least(like) != scalar.Least(x) || scalar.Bytes(like) != scalar.Bytes(x) {
				t.Errorf("%x and %x: Least %x, Bytes %x", x, like, scalar.Least(like), scalar.Bytes(like))
			}
			for _, c := range twoNumbers() {
				for _, y := range edges() {
					if c.call(like, y) != c.call(x, y) || c.call(y, like) != c.call(y, x) {
						t.Errorf("%s of %x, or of %x, with %x", c.name, x, like, y)
					}
				}
			}
		}
	}
}

// R1, R4: no call keeps anything, or changes what it was handed.
func TestNothingIsKept(t *testing.T) {
	x, y := api.Sc{all, 1, all, all}, api.Sc{3, all, 0, top}
	wasX, wasY := x, y
	round := func() [5]api.Sc {
		back, _ := scalar.Parse(scalar.Bytes(y))
		wide, _ := scalar.Wide(scalar.Bytes(x) + scalar.Bytes(y))
		return [5]api.Sc{scalar.Least(x), scalar.Add(x, y), scalar.Mul(x, y), back, wide}
	}
	first := round()
	scalar.Mul(api.Sc{5}, api.Sc{all, all, all, all})
	scalar.Wide(zeros(65))
	scalar.Parse("no number")
	if again := round(); again != first || x != wasX || y != wasY {
		t.Errorf("first %x, then %x, of %x and %x", first, again, x, y)
	}
}

// parts are two numbers of four words, of as many bytes as there are.
func parts(s string) (x, y *big.Int) {
	s = (s + zeros(64))[:64]
	return numberOf(s[:32]), numberOf(s[32:])
}

// P1, P5.1 to P5.3: no call panics, whatever it is handed, and each answers what the library reckons.
func FuzzAnyBytes(f *testing.F) {
	for _, s := range []string{"", orderBytes, orderBytes + orderBytes, zeros(31) + "\x10", zeros(63) + "\x10", zeros(65), "a text of more than sixty-four bytes, that is no number of any kind"} {
		f.Add(s)
	}
	f.Fuzz(func(t *testing.T, s string) {
		x, y := parts(s)
		for _, c := range twoNumbers() {
			if got, want := c.call(sc(x), sc(y)), least(c.want(new(big.Int), x, y)); got != want {
				t.Errorf("%s(%x, %x): %x, not %x", c.name, x, y, got, want)
			}
		}
		if got := scalar.Bytes(sc(x)); got != written(great(least(x)), 32) {
			t.Errorf("Bytes(%x): %x", x, got)
		}
		if len(s) > 64 {
			if got, e := scalar.Wide(s); got != (api.Sc{}) || e != api.ErrArg {
				t.Errorf("Wide of %d bytes: %x, %d, not ErrArg", len(s), got, e)
			}
		} else {
			wide(t, s)
		}
		if len(s) == 32 {
			parsed(t, x)
		} else if got, e := scalar.Parse(s); got != (api.Sc{}) || e != api.ErrArg {
			t.Errorf("Parse of %d bytes: %x, %d, not ErrArg", len(s), got, e)
		}
	})
}
