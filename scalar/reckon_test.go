package scalar_test

import (
	"math/big"
	"testing"

	"imprimatur/api"
	"imprimatur/scalar"
)

// twoNumbers are the calls that take two, and the library's reckoning of them.
func twoNumbers() []struct {
	name string
	call func(x, y api.Sc) api.Sc
	want func(z, x, y *big.Int) *big.Int
} {
	return []struct {
		name string
		call func(x, y api.Sc) api.Sc
		want func(z, x, y *big.Int) *big.Int
	}{
		{"Add", scalar.Add, (*big.Int).Add},
		{"Mul", scalar.Mul, (*big.Int).Mul},
	}
}

// P5.1: Least, told by numbers, about whole numbers of times L.
func TestLeastOfKnownNumbers(t *testing.T) {
	for _, c := range []struct{ in, want api.Sc }{
		{api.Sc{0}, api.Sc{0}},
		{api.Sc{1}, api.Sc{1}},
		{api.Sc{2}, api.Sc{2}},
		{api.Sc{3: 1 << 60}, api.Sc{3: 1 << 60}}, // 2^252 is below L
		{api.Sc{0x5812631a5cf5d3ec, 0x14def9dea2f79cd6, 0, 1 << 60}, api.Sc{0x5812631a5cf5d3ec, 0x14def9dea2f79cd6, 0, 1 << 60}},
		{api.Sc{0x5812631a5cf5d3ed, 0x14def9dea2f79cd6, 0, 1 << 60}, api.Sc{0}},
		{api.Sc{0x5812631a5cf5d3ee, 0x14def9dea2f79cd6, 0, 1 << 60}, api.Sc{1}},
		{api.Sc{0x5812631a5cf5d3ed, 0x14def9dea2f79cd7, 0, 1 << 60}, api.Sc{0, 1}},
		{api.Sc{0x5812631a5cf5d3ed, 0x14def9dea2f79cd5, 0, 1 << 60}, api.Sc{0x5812631a5cf5d3ed, 0x14def9dea2f79cd5, 0, 1 << 60}},
		{api.Sc{0x5812631a5cf5d3ed, 0x14def9dea2f79cd6, 1, 1 << 60}, api.Sc{0, 0, 1}},
		{api.Sc{all, all, all, 1<<60 - 1}, api.Sc{all, all, all, 1<<60 - 1}},
		{orders(2, -1), orders(1, -1)},
		{orders(2, 0), api.Sc{0}},
		{orders(2, 1), api.Sc{1}},
		{orders(tallest, -1), orders(1, -1)},
		{orders(tallest, 0), api.Sc{0}},
		{orders(tallest, 1), api.Sc{1}},
		{orders(tallest, 1234), api.Sc{1234}},
	} {
		if got := scalar.Least(c.in); got != c.want {
			t.Errorf("Least(%x): %x, not %x", c.in, got, c.want)
		}
	}
}

// P5.1: Least about each number of times L that four words have room for.
func TestLeastAboutL(t *testing.T) {
	for times := int64(1); times <= tallest; times++ {
		for more := int64(0); more < 300; more++ {
			if got := scalar.Least(orders(times, more)); got != (api.Sc{uint64(more)}) {
				t.Errorf("Least of %d times L, and %d: %x", times, more, got)
			}
			if got := scalar.Least(orders(times, -1-more)); got != orders(1, -1-more) {
				t.Errorf("Least of %d times L, less %d: %x", times, more+1, got)
			}
		}
		// A bit more or less in each place, where that is no L more or less.
		for bit := range uint(252) {
			more := new(big.Int).Add(great(orders(times, 0)), powerOfTwo(bit))
			if got := scalar.Least(sc(more)); more.BitLen() <= 256 && got != sc(powerOfTwo(bit)) {
				t.Errorf("Least of %d times L, and 2^%d: %x", times, bit, got)
			}
			less := new(big.Int).Sub(great(orders(times, 0)), powerOfTwo(bit))
			if got := scalar.Least(sc(less)); got != sc(new(big.Int).Sub(order(), powerOfTwo(bit))) {
				t.Errorf("Least of %d times L, less 2^%d: %x", times, bit, got)
			}
		}
	}
}

// P5.1: Least of any number is what it leaves, divided by L, and its own Least.
func TestLeast(t *testing.T) {
	for _, x := range append(numbers(), someNumbers(2, 5000)...) {
		got := scalar.Least(x)
		if want := least(great(x)); got != want {
			t.Errorf("Least(%x): %x, not %x", x, got, want)
		}
		if again := scalar.Least(got); again != got {
			t.Errorf("Least(%x): %x", got, again)
		}
	}
}

// P5.1: sums and products told by numbers, the chapter's example among them.
func TestReckoningOfKnownNumbers(t *testing.T) {
	below := orders(1, -1)
	most := api.Sc{all, all, all, all}
	for _, c := range []struct {
		name      string
		call      func(x, y api.Sc) api.Sc
		x, y, out api.Sc
	}{
		{"Add", scalar.Add, below, api.Sc{2}, api.Sc{1}},
		{"Add", scalar.Add, api.Sc{0}, api.Sc{0}, api.Sc{0}},
		{"Add", scalar.Add, api.Sc{1}, api.Sc{2}, api.Sc{3}},
		{"Add", scalar.Add, below, api.Sc{0}, below},
		{"Add", scalar.Add, below, api.Sc{1}, api.Sc{0}},
		{"Add", scalar.Add, below, below, orders(1, -2)},
		{"Add", scalar.Add, orders(1, 0), orders(1, 0), api.Sc{0}},
		{"Add", scalar.Add, orders(2, 1), orders(tallest, 2), api.Sc{3}}, // beyond four words
		{"Add", scalar.Add, orders(tallest, 0), orders(tallest, 0), api.Sc{0}},
		{"Add", scalar.Add, orders(tallest, 5), orders(tallest, -6), below},
		{"Add", scalar.Add, most, api.Sc{1}, least(powerOfTwo(256))},
		{"Add", scalar.Add, most, most, least(moreBy(powerOfTwo(257), -2))},
		{"Add", scalar.Add, api.Sc{all}, api.Sc{1}, api.Sc{0, 1}},
		{"Add", scalar.Add, api.Sc{all, all}, api.Sc{1}, api.Sc{0, 0, 1}},
		{"Add", scalar.Add, api.Sc{all, all, all}, api.Sc{1}, api.Sc{0, 0, 0, 1}},
		{"Add", scalar.Add, api.Sc{all, all, all, 1<<60 - 1}, api.Sc{1}, api.Sc{3: 1 << 60}},
		{"Mul", scalar.Mul, api.Sc{2}, api.Sc{3}, api.Sc{6}},
		{"Mul", scalar.Mul, api.Sc{0}, most, api.Sc{0}},
		{"Mul", scalar.Mul, below, below, api.Sc{1}},
		{"Mul", scalar.Mul, below, api.Sc{2}, orders(1, -2)},
		{"Mul", scalar.Mul, orders(1, 0), most, api.Sc{0}},
		{"Mul", scalar.Mul, orders(tallest, 0), orders(tallest, 0), api.Sc{0}},
		{"Mul", scalar.Mul, orders(tallest, 1), orders(tallest, -1), below},
		{"Mul", scalar.Mul, orders(2, 1), orders(1, 1), api.Sc{1}},
		{"Mul", scalar.Mul, orders(1, 1), api.Sc{1, 2, 3, 4}, api.Sc{1, 2, 3, 4}},
		{"Mul", scalar.Mul, api.Sc{all}, api.Sc{all}, api.Sc{1, all - 1}},
		{"Mul", scalar.Mul, api.Sc{0, 1}, api.Sc{0, 0, 1}, api.Sc{3: 1}},
		{"Mul", scalar.Mul, api.Sc{3: 1 << 30}, api.Sc{1 << 30}, api.Sc{3: 1 << 60}},
		{"Mul", scalar.Mul, most, most, least(new(big.Int).Mul(great(most), great(most)))},
	} {
		if got := c.call(c.x, c.y); got != c.out {
			t.Errorf("%s(%x, %x): %x, not %x", c.name, c.x, c.y, got, c.out)
		}
	}
}

// P5.1: sums and products of each two of the edges, in both orders.
func TestReckoningOfEdges(t *testing.T) {
	list := edges()
	for _, c := range twoNumbers() {
		for _, x := range list {
			for _, y := range list {
				if got, want := c.call(x, y), least(c.want(new(big.Int), great(x), great(y))); got != want {
					t.Fatalf("%s(%x, %x): %x, not %x", c.name, x, y, got, want)
				}
			}
		}
	}
}

// P5.1: sums and products of any numbers, and of each with itself.
func TestReckoningOfAnyNumbers(t *testing.T) {
	one, two := someNumbers(3, 5000), someNumbers(4, 5000)
	for _, c := range twoNumbers() {
		for i, x := range one {
			for _, y := range []api.Sc{two[i], x} {
				if got, want := c.call(x, y), least(c.want(new(big.Int), great(x), great(y))); got != want {
					t.Fatalf("%s(%x, %x): %x, not %x", c.name, x, y, got, want)
				}
			}
		}
	}
}

// P5.1: sums that leave the four words lose nothing of what is beyond.
func TestSumsBeyondFourWords(t *testing.T) {
	beyond := 0
	for _, x := range numbers() {
		for _, y := range []api.Sc{x, {all, all, all, all}, {3: top}, {3: all}, orders(tallest, 0)} {
			sum := new(big.Int).Add(great(x), great(y))
			if sum.BitLen() <= 256 {
				continue
			}
			beyond++
			if got := scalar.Add(x, y); got != least(sum) {
				t.Errorf("Add(%x, %x): %x, not %x", x, y, got, least(sum))
			}
		}
	}
	if beyond < 100 {
		t.Errorf("%d sums left the four words", beyond)
	}
}
