package sha512_test

import (
	"encoding/hex"
	"slices"
	"strings"
	"testing"

	"imprimatur/sha512"
)

// P3.2: known sums.
func TestSumOfKnownTexts(t *testing.T) {
	for _, c := range []struct{ in, want string }{
		{"", "cf83e1357eefb8bdf1542850d66d8007d620e4050b5715dc83f4a921d36ce9ce47d0d13c5d85f2b0ff8318d2877eec2f63b931bd47417a81a538327af927da3e"},
		{"abc", "ddaf35a193617abacc417349ae20413112e6fa4e89a97ea20a9eeee64b55d39a2192992a274fc1a836ba3c23a3feebbd454d4423643ce80e2a9ac94fa54ca49f"},
		{"\x80", "dfe8ef54110b3324d3b889035c95cfb80c92704614bf76f17546ad4f4b08218a630e16da7df34766a975b3bb85b01df9e99a4ec0a1d0ec3de6bed7b7a40b2f10"},
		{"abcdbcdecdefdefgefghfghighijhijkijkljklmklmnlmnomnopnopq", "204a8fc6dda82f0a0ced7beb8e08a41657c16ef468b228a8279be331a703c33596fd15c13b1b07f9aa1d3bea57789ca031ad85c7a71dd70354ec631238ca3445"},
		{"abcdefghbcdefghicdefghijdefghijkefghijklfghijklmghijklmnhijklmnoijklmnopjklmnopqklmnopqrlmnopqrsmnopqrstnopqrstu", "8e959b75dae313da8cf4f72814fc143f8f7779c6eb9f7fa17299aeadb6889018501d289e4900f7e4331b99dec4b5433ac7d329eeb6dd26545e96e55b874be909"},
		{strings.Repeat("a", 111), "fa9121c7b32b9e01733d034cfc78cbf67f926c7ed83e82200ef86818196921760b4beff48404df811b953828274461673c68d04e297b0eb7b2b4d60fc6b566a2"},
		{strings.Repeat("a", 112), "c01d080efd492776a1c43bd23dd99d0a2e626d481e16782e75d54c2503b5dc32bd05f0f1ba33e568b88fd2d970929b719ecbb152f58f130a407c8830604b70ca"},
		{strings.Repeat("a", 127), "828613968b501dc00a97e08c73b118aa8876c26b8aac93df128502ab360f91bab50a51e088769a5c1eff4782ace147dce3642554199876374291f5d921629502"},
		{strings.Repeat("a", 128), "b73d1929aa615934e61a871596b3f3b33359f42b8175602e89f7e06e5f658a243667807ed300314b95cacdd579f3e33abdfbe351909519a846d465c59582f321"},
		{strings.Repeat("a", 129), "4f681e0bd53cda4b5a2041cc8a06f2eabde44fb16c951fbd5b87702f07aeab611565b19c47fde30587177ebb852e3971bbd8d3fd30da18d71037dfbd98420429"},
		{strings.Repeat("a", 239), "52c853cb8d907f3d4d6b889beb027985d7c273486d75f8baf26f80d24e90c74c6c3de3e22131582380a7d14d43f2941a31385439cd6ddc469f628015e50bf286"},
		{strings.Repeat("a", 240), "4c296d90c61052a62ffb1dd196f1b7b09373b1f93e71836baebf89690546b7595684dbe9467a8e484fa0d1094272b4344a7c24f5fee8daedeb0bf549c985ab5f"},
		{strings.Repeat("a", 256), "6a9169eb662f136d87374070e8828b3e615a7eca32a89446e9225b02832709be095e635c824a2bb70213ba2ea0ababac0809827843992c851903b7ac0c136699"},
		{strings.Repeat("a", 1000), "67ba5535a46e3f86dbfbed8cbbaf0125c76ed549ff8b0b9e03e0c88cf90fa634fa7b12b47d77b694de488ace8d9a65967dc96df599727d3292a8d9d447709c97"},
		{strings.Repeat("a", 1000000), "e718483d0ce769644e2e42c7bc15b4638e1f98b13b2044285632a803afa973ebde0ff244877ea60a4cb0432ce577c31beb009c5c2c49aa2e4eadb217ad8cc09b"},
	} {
		if got := hex.EncodeToString([]byte(sha512.Sum(c.in))); got != c.want {
			t.Errorf("Sum of %d bytes, %.20q: %s, not %s", len(c.in), c.in, got, c.want)
		}
	}
}

// P3.2: the sum of each number of bytes, over several blocks.
func TestSumOfEachLength(t *testing.T) {
	for n := range 700 {
		for _, s := range []string{mixed(n), strings.Repeat("\x00", n), strings.Repeat("\xff", n), strings.Repeat("\x80", n)} {
			if got, want := sha512.Sum(s), summed(s); got != want {
				t.Fatalf("Sum of %d bytes, %.10q: %x, not %x", n, s, got, want)
			}
		}
	}
}

// P3.2: the sum of each byte alone, and of each behind one block.
func TestSumOfEachByte(t *testing.T) {
	for i := range 256 {
		for _, s := range []string{string([]byte{byte(i)}), mixed(128) + string([]byte{byte(i)})} {
			if got, want := sha512.Sum(s), summed(s); got != want {
				t.Fatalf("Sum of %q: %x, not %x", s, got, want)
			}
		}
	}
}

// P3.2: parts are one behind the other, however many there are.
func TestSumOfParts(t *testing.T) {
	a, b, c := mixed(128), mixed(111), mixed(3)
	for _, parts := range [][]string{
		nil,
		{},
		{""},
		{"", "", ""},
		{"abc"},
		{"a", "b", "c"},
		{"", "a", "", "bc", ""},
		{"ab", "c"},
		{"c", "ab"},
		{"\x00", a, a},
		{"\x01", a[:64], a[64:]},
		{a, b, c},
		{c, b, a},
		{b, c, a, a, c, b},
		{a[:127], a[127:], "", a},
		{a[:1], a[1:], a + a, b},
		strings.Split(mixed(1000), ""),
		strings.Split(strings.Repeat("\x80", 257), ""),
		slices.Repeat([]string{""}, 1000),
		slices.Repeat([]string{c}, 1000),
	} {
		if got, want := sha512.Sum(parts...), summed(strings.Join(parts, "")); got != want {
			t.Errorf("Sum of %d parts, %.60q: %x, not %x", len(parts), parts, got, want)
		}
	}
}

// P3.2: two parts, cut at each place, sum up alike.
func TestSumOfEachCut(t *testing.T) {
	for _, n := range edges() {
		s := mixed(n)
		want := summed(s)
		for i := range n + 1 {
			if got := sha512.Sum(s[:i], s[i:]); got != want {
				t.Fatalf("Sum of %d bytes cut at %d: %x, not %x", n, i, got, want)
			}
		}
	}
}

// R1, R4: no call keeps anything, or changes the parts.
func TestSumLeavesItsParts(t *testing.T) {
	parts := []string{"a", mixed(128), "", "b"}
	was := slices.Clone(parts)
	first := sha512.Sum(parts...)
	sha512.Sum("something", "else")
	if again := sha512.Sum(parts...); again != first {
		t.Errorf("the same parts: %x, then %x", first, again)
	}
	if !slices.Equal(parts, was) {
		t.Errorf("the parts are now %q", parts)
	}
}
