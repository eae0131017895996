package sha256_test

import (
	"encoding/hex"
	"slices"
	"strings"
	"testing"

	"imprimatur/sha256"
)

// P2.2: known sums.
func TestSumOfKnownTexts(t *testing.T) {
	for _, c := range []struct{ in, want string }{
		{"", "e3b0c44298fc1c149afbf4c8996fb92427ae41e4649b934ca495991b7852b855"},
		{"abc", "ba7816bf8f01cfea414140de5dae2223b00361a396177a9cb410ff61f20015ad"},
		{"\x80", "76be8b528d0075f7aae98d6fa57a6d3c83ae480a8469e668d7b0af968995ac71"},
		{"abcdbcdecdefdefgefghfghighijhijkijkljklmklmnlmnomnopnopq", "248d6a61d20638b8e5c026930c3e6039a33ce45964ff2167f6ecedd419db06c1"},
		{"abcdefghbcdefghicdefghijdefghijkefghijklfghijklmghijklmnhijklmnoijklmnopjklmnopqklmnopqrlmnopqrsmnopqrstnopqrstu", "cf5b16a778af8380036ce59e7b0492370b249b11e8f07a51afac45037afee9d1"},
		{strings.Repeat("a", 55), "9f4390f8d30c2dd92ec9f095b65e2b9ae9b0a925a5258e241c9f1e910f734318"},
		{strings.Repeat("a", 56), "b35439a4ac6f0948b6d6f9e3c6af0f5f590ce20f1bde7090ef7970686ec6738a"},
		{strings.Repeat("a", 63), "7d3e74a05d7db15bce4ad9ec0658ea98e3f06eeecf16b4c6fff2da457ddc2f34"},
		{strings.Repeat("a", 64), "ffe054fe7ae0cb6dc65c3af9b61d5209f439851db43d0ba5997337df154668eb"},
		{strings.Repeat("a", 65), "635361c48bb9eab14198e76ea8ab7f1a41685d6ad62aa9146d301d4f17eb0ae0"},
		{strings.Repeat("a", 119), "31eba51c313a5c08226adf18d4a359cfdfd8d2e816b13f4af952f7ea6584dcfb"},
		{strings.Repeat("a", 120), "2f3d335432c70b580af0e8e1b3674a7c020d683aa5f73aaaedfdc55af904c21c"},
		{strings.Repeat("a", 128), "6836cf13bac400e9105071cd6af47084dfacad4e5e302c94bfed24e013afb73e"},
		{strings.Repeat("a", 1000000), "cdc76e5c9914fb9281a1c7e284d73e67f1809a48a497200e046d39ccc7112cd0"},
	} {
		if got := hex.EncodeToString([]byte(sha256.Sum(c.in))); got != c.want {
			t.Errorf("Sum of %d bytes, %.20q: %s, not %s", len(c.in), c.in, got, c.want)
		}
	}
}

// P2.2: the sum of each number of bytes, over several blocks.
func TestSumOfEachLength(t *testing.T) {
	for n := range 400 {
		for _, s := range []string{mixed(n), strings.Repeat("\x00", n), strings.Repeat("\xff", n), strings.Repeat("\x80", n)} {
			if got, want := sha256.Sum(s), summed(s); got != want {
				t.Fatalf("Sum of %d bytes, %.10q: %x, not %x", n, s, got, want)
			}
		}
	}
}

// P2.2: the sum of each byte alone, and of each behind one block.
func TestSumOfEachByte(t *testing.T) {
	for i := range 256 {
		for _, s := range []string{string([]byte{byte(i)}), mixed(64) + string([]byte{byte(i)})} {
			if got, want := sha256.Sum(s), summed(s); got != want {
				t.Fatalf("Sum of %q: %x, not %x", s, got, want)
			}
		}
	}
}

// P2.2: parts are one behind the other, however many there are.
func TestSumOfParts(t *testing.T) {
	a, b, c := mixed(64), mixed(55), mixed(3)
	for _, parts := range [][]string{
		nil,
		{},
		{""},
		{"", "", ""},
		{"abc"},
		{"a", "b", "c"},
		{"", "a", "", "bc", ""},
		{"ab", "c"},
		{"c", "ab"},
		{"\x00", a, a},
		{"\x01", a[:32], a[32:]},
		{a, b, c},
		{c, b, a},
		{b, c, a, a, c, b},
		{a[:63], a[63:], "", a},
		{a[:1], a[1:], a + a, b},
		strings.Split(mixed(1000), ""),
		strings.Split(strings.Repeat("\x80", 129), ""),
		slices.Repeat([]string{""}, 1000),
		slices.Repeat([]string{c}, 1000),
	} {
		if got, want := sha256.Sum(parts...), summed(strings.Join(parts, "")); got != want {
			t.Errorf("Sum of %d parts, %.60q: %x, not %x", len(parts), parts, got, want)
		}
	}
}

// P2.2: two parts, cut at each place, sum up alike.
func TestSumOfEachCut(t *testing.T) {
	for _, n := range edges() {
		s := mixed(n)
		want := summed(s)
		for i := range n + 1 {
			if got := sha256.Sum(s[:i], s[i:]); got != want {
				t.Fatalf("Sum of %d bytes cut at %d: %x, not %x", n, i, got, want)
			}
		}
	}
}

// R1, R4: no call keeps anything, or changes the parts.
func TestSumLeavesItsParts(t *testing.T) {
	parts := []string{"a", mixed(64), "", "b"}
	was := slices.Clone(parts)
	first := sha256.Sum(parts...)
	sha256.Sum("something", "else")
	if again := sha256.Sum(parts...); again != first {
		t.Errorf("the same parts: %x, then %x", first, again)
	}
	if !slices.Equal(parts, was) {
		t.Errorf("the parts are now %q", parts)
	}
}
