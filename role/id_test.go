package role_test

import (
	"strings"
	"testing"

	"imprimatur/octet"
	"imprimatur/role"
	"imprimatur/sha256"
)

// signer is of RFC 8032: a seed, its key, that key's sum, a text and its signature, in hexadecimal digits.
type signer struct{ seed, public, id, text, sig string }

func known() []signer {
	return []signer{
		{
			"9d61b19deffd5a60ba844af492ec2cc44449c5697b326919703bac031cae7f60",
			"d75a980182b10ab7d54bfed3c964073a0ee172f3daa62325af021a68f707511a",
			"21fe31dfa154a261626bf854046fd2271b7bed4b6abe45aa58877ef47f9721b9",
			"",
			"e5564300c360ac729086e2cc806e828a84877f1eb8e5d974d873e065224901555fb8821590a33bacc61e39701cf9b46bd25bf5f0595bbe24655141438e7a100b",
		},
		{
			"4ccd089b28ff96da9db6c346ec114e0f5b8a319f35aba624da8cf6ed4fb8a6fb",
			"3d4017c3e843895a92b70aa74d1b7ebc9c982ccf2ec4968cc0cd55f12af4660c",
			"39f713d0a644253f04529421b9f51b9b08979d08295959c4f3990ee617f5139f",
			"72",
			"92a009a9f0d4cab8720e820b5f642540a2b27b5416503f8fb3762223ebdb69da085ac1e43e15996e458f3613d0f11d8c387b2eaeb4302aeeb00d291612bb0c00",
		},
		{
			"833fe62409237b9d62ec77587520911e9a759cec1d19755b7da901b96dca3d42",
			"ec172b93ad5e563bf4932c70e1245034c35467ef2efd4d64ebf819683467e2bf",
			"5f9b247e2a654719f198e4f241d6b0df9a1a937a13ef5ef899f64d9285fce224",
			"ddaf35a193617abacc417349ae20413112e6fa4e89a97ea20a9eeee64b55d39a2192992a274fc1a836ba3c23a3feebbd454d4423643ce80e2a9ac94fa54ca49f",
			"dc2a4459e7369633a52b1bf277839a00201009a3efbf3ecb69bea2186c26b58909351fc9ac90b3ecfdfbc7c66431e0303dca179c138ac17ad9bef1177331a704",
		},
		{
			"c5aa8df43f9f837bedb7442f31dcb7b166d38535076f094b85ce3a2e0b4458f7",
			"fc51cd8e6218a1a38da47ed00230f0580816ed13ba3303ac5deb911548908025",
			"dac073e0123bdea59dd9b3bda9cf6037f63aca82627d7abcd5c4ac29dd74003e",
			"af82",
			"6291d657deec24024827e69c3abe01a30ce548a284743a445e3680d7db5ac3ac18ff9b538d16f290ae67f760984dc6594a7c15e9716ed28dc027beceea1ec40a",
		},
	}
}

// P14.1: known sums.
func TestKnownIds(t *testing.T) {
	t.Parallel()
	for public, want := range map[string]string{
		"":    "e3b0c44298fc1c149afbf4c8996fb92427ae41e4649b934ca495991b7852b855",
		"abc": "ba7816bf8f01cfea414140de5dae2223b00361a396177a9cb410ff61f20015ad",
		"abcdbcdecdefdefgefghfghighijhijkijkljklmklmnlmnomnopnopq": "248d6a61d20638b8e5c026930c3e6039a33ce45964ff2167f6ecedd419db06c1",
	} {
		if got := role.Id(public); got != want {
			t.Errorf("Id of %q: %q, not %q", public, got, want)
		}
	}
	for _, k := range known() {
		if got := role.Id(unhex(k.public)); got != k.id {
			t.Errorf("Id of %s: %q, not %q", k.public, got, k.id)
		}
	}
}

// P14.1: of any bytes, however many, it is the digits of their sum.
func TestId(t *testing.T) {
	t.Parallel()
	list := []string{mixed(1000), mixed(65536), mixed(1 << 20), "é", "\xff\xfe", strings.Repeat("\x00", 32), strings.Repeat("\xff", 32)}
	for n := range 200 {
		list = append(list, mixed(n), strings.Repeat("a", n), strings.Repeat("\x00", n))
	}
	for _, p := range people(18) {
		list = append(list, p.public, p.id, p.public[:31], p.public+"\x00")
	}
	for _, s := range list {
		if got := role.Id(s); got != idOf(s) || got != octet.Hex(sha256.Sum(s)) {
			t.Errorf("Id of %d bytes, %.40x: %q, not %q", len(s), s, got, idOf(s))
		}
	}
}
