package field_test

import (
	"math/big"
	"testing"

	"imprimatur/api"
	"imprimatur/field"
)

// P4.1: Of is the number.
func TestOf(t *testing.T) {
	for _, n := range []uint64{0, 1, 2, 18, 19, 20, 38, 255, 256, 1 << 32, top - 1, top, top + 1, all - 19, all - 18, all - 1, all} {
		if got := field.Of(n); got != (api.Fe{n, 0, 0, 0}) {
			t.Errorf("Of(%d): %x", n, got)
		}
	}
}

// P4.1: Least about each whole number of times p that four words have room for, told by numbers.
func TestLeastAboutP(t *testing.T) {
	for _, c := range []struct {
		in   api.Fe
		want api.Fe
	}{
		{api.Fe{0}, api.Fe{0}},
		{api.Fe{1}, api.Fe{1}},
		{api.Fe{2}, api.Fe{2}},
		{timesPrime(1, -1), timesPrime(1, -1)},
		{timesPrime(1, 0), api.Fe{0}},
		{timesPrime(1, 1), api.Fe{1}},
		{timesPrime(1, 18), api.Fe{18}},
		{api.Fe{3: top}, api.Fe{19}},
		{timesPrime(2, -1), timesPrime(1, -1)},
		{timesPrime(2, 0), api.Fe{0}},
		{timesPrime(2, 1), api.Fe{1}},
		{timesPrime(2, 37), api.Fe{37}},
		{api.Fe{all, all, all, all}, api.Fe{37}},
		{api.Fe{all, all, all, top - 1}, api.Fe{18}},
		{api.Fe{all - 18, all, all, top - 2}, api.Fe{all - 18, all, all, top - 2}},
		{api.Fe{all - 18, all, all - 1, top - 1}, api.Fe{all - 18, all, all - 1, top - 1}},
		{api.Fe{all - 18, all - 1, all, top - 1}, api.Fe{all - 18, all - 1, all, top - 1}},
		{api.Fe{0, 0, 0, all}, api.Fe{19, 0, 0, top - 1}},
		{api.Fe{all, all, all, 0}, api.Fe{all, all, all, 0}},
	} {
		if got := field.Least(c.in); got != c.want {
			t.Errorf("Least(%x): %x, not %x", c.in, got, c.want)
		}
	}
}

// P4.1: Least of any number is what it leaves, divided by p, and its own Least.
func TestLeast(t *testing.T) {
	for _, x := range append(numbers(), someNumbers(2, 5000)...) {
		got := field.Least(x)
		if want := least(great(x)); got != want {
			t.Errorf("Least(%x): %x, not %x", x, got, want)
		}
		if again := field.Least(got); again != got {
			t.Errorf("Least(%x): %x", got, again)
		}
	}
}

// twoNumbers are the calls that take two, and the library's reckoning of them.
func twoNumbers() []struct {
	name string
	call func(x, y api.Fe) api.Fe
	want func(z, x, y *big.Int) *big.Int
} {
	return []struct {
		name string
		call func(x, y api.Fe) api.Fe
		want func(z, x, y *big.Int) *big.Int
	}{
		{"Add", field.Add, (*big.Int).Add},
		{"Sub", field.Sub, (*big.Int).Sub},
		{"Mul", field.Mul, (*big.Int).Mul},
	}
}

// P4.1: sums, differences and products of each two of the edges, in both orders.
func TestReckoningOfEdges(t *testing.T) {
	list := edges()
	for _, c := range twoNumbers() {
		for _, x := range list {
			for _, y := range list {
				if got, want := c.call(x, y), least(c.want(new(big.Int), great(x), great(y))); got != want {
					t.Fatalf("%s(%x, %x): %x, not %x", c.name, x, y, got, want)
				}
			}
		}
	}
}

// P4.1: sums, differences and products of any numbers, and of each with itself.
func TestReckoningOfAnyNumbers(t *testing.T) {
	one, two := someNumbers(3, 5000), someNumbers(4, 5000)
	for _, c := range twoNumbers() {
		for i, x := range one {
			for _, y := range []api.Fe{two[i], x} {
				if got, want := c.call(x, y), least(c.want(new(big.Int), great(x), great(y))); got != want {
					t.Fatalf("%s(%x, %x): %x, not %x", c.name, x, y, got, want)
				}
			}
		}
	}
}

// P4.1: what is told by numbers, the chapter's example among it.
func TestReckoningOfKnownNumbers(t *testing.T) {
	below := timesPrime(1, -1)
	most := api.Fe{all, all, all, all} // counts as 37
	for _, c := range []struct {
		name      string
		call      func(x, y api.Fe) api.Fe
		x, y, out api.Fe
	}{
		{"Add", field.Add, api.Fe{1}, api.Fe{2}, api.Fe{3}},
		{"Add", field.Add, below, api.Fe{1}, api.Fe{0}},
		{"Add", field.Add, below, api.Fe{2}, api.Fe{1}},
		{"Add", field.Add, below, below, timesPrime(1, -2)},
		{"Add", field.Add, most, api.Fe{1}, api.Fe{38}},
		{"Add", field.Add, most, most, api.Fe{74}},
		{"Add", field.Add, timesPrime(1, 0), timesPrime(1, 0), api.Fe{0}},
		{"Add", field.Add, timesPrime(2, 0), timesPrime(2, 0), api.Fe{0}},
		{"Add", field.Add, api.Fe{all, 0, 0, 0}, api.Fe{1}, api.Fe{0, 1, 0, 0}},
		{"Add", field.Add, api.Fe{all, all, all, 0}, api.Fe{1}, api.Fe{0, 0, 0, 1}},
		{"Add", field.Add, api.Fe{all, all, all, top - 1}, api.Fe{1}, api.Fe{19}},
		{"Sub", field.Sub, api.Fe{0}, api.Fe{1}, below},
		{"Sub", field.Sub, api.Fe{3}, api.Fe{2}, api.Fe{1}},
		{"Sub", field.Sub, api.Fe{2}, api.Fe{3}, below},
		{"Sub", field.Sub, api.Fe{0}, below, api.Fe{1}},
		{"Sub", field.Sub, below, below, api.Fe{0}},
		{"Sub", field.Sub, api.Fe{0}, timesPrime(1, 0), api.Fe{0}},
		{"Sub", field.Sub, api.Fe{0}, timesPrime(2, 0), api.Fe{0}},
		{"Sub", field.Sub, api.Fe{0}, timesPrime(2, 1), below},
		{"Sub", field.Sub, api.Fe{0}, most, timesPrime(1, -37)},
		{"Sub", field.Sub, most, api.Fe{38}, below},
		{"Sub", field.Sub, api.Fe{0, 0, 0, 1}, api.Fe{1}, api.Fe{all, all, all, 0}},
		{"Sub", field.Sub, api.Fe{0, 1, 0, 0}, api.Fe{1}, api.Fe{all, 0, 0, 0}},
		{"Mul", field.Mul, api.Fe{2}, api.Fe{3}, api.Fe{6}},
		{"Mul", field.Mul, below, below, api.Fe{1}},
		{"Mul", field.Mul, below, api.Fe{2}, timesPrime(1, -2)},
		{"Mul", field.Mul, most, most, api.Fe{37 * 37}},
		{"Mul", field.Mul, api.Fe{3: top}, api.Fe{1}, api.Fe{19}},
		{"Mul", field.Mul, api.Fe{3: top}, api.Fe{2}, api.Fe{38}},
		{"Mul", field.Mul, api.Fe{3: top}, api.Fe{3: top}, api.Fe{19 * 19}},
		{"Mul", field.Mul, timesPrime(1, 0), most, api.Fe{0}},
		{"Mul", field.Mul, timesPrime(2, 0), timesPrime(1, 0), api.Fe{0}},
		{"Mul", field.Mul, timesPrime(2, 1), timesPrime(1, 1), api.Fe{1}},
		{"Mul", field.Mul, api.Fe{all}, api.Fe{all}, api.Fe{1, all - 1, 0, 0}},
	} {
		if got := c.call(c.x, c.y); got != c.out {
			t.Errorf("%s(%x, %x): %x, not %x", c.name, c.x, c.y, got, c.out)
		}
	}
}
