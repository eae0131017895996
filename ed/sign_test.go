package ed_test

import (
	"crypto/sha512"
	"encoding/hex"
	"strings"
	"testing"

	"imprimatur/api"
	"imprimatur/ed"
)

// known are the seed, key, message and signature of RFC 8032, in hexadecimal digits.
func known() [][4]string {
	return [][4]string{
		{
			"9d61b19deffd5a60ba844af492ec2cc44449c5697b326919703bac031cae7f60",
			"d75a980182b10ab7d54bfed3c964073a0ee172f3daa62325af021a68f707511a",
			"",
			"e5564300c360ac729086e2cc806e828a84877f1eb8e5d974d873e065224901555fb8821590a33bacc61e39701cf9b46bd25bf5f0595bbe24655141438e7a100b",
		},
		{
			"4ccd089b28ff96da9db6c346ec114e0f5b8a319f35aba624da8cf6ed4fb8a6fb",
			"3d4017c3e843895a92b70aa74d1b7ebc9c982ccf2ec4968cc0cd55f12af4660c",
			"72",
			"92a009a9f0d4cab8720e820b5f642540a2b27b5416503f8fb3762223ebdb69da085ac1e43e15996e458f3613d0f11d8c387b2eaeb4302aeeb00d291612bb0c00",
		},
		{
			"c5aa8df43f9f837bedb7442f31dcb7b166d38535076f094b85ce3a2e0b4458f7",
			"fc51cd8e6218a1a38da47ed00230f0580816ed13ba3303ac5deb911548908025",
			"af82",
			"6291d657deec24024827e69c3abe01a30ce548a284743a445e3680d7db5ac3ac18ff9b538d16f290ae67f760984dc6594a7c15e9716ed28dc027beceea1ec40a",
		},
		{
			"833fe62409237b9d62ec77587520911e9a759cec1d19755b7da901b96dca3d42",
			"ec172b93ad5e563bf4932c70e1245034c35467ef2efd4d64ebf819683467e2bf",
			"ddaf35a193617abacc417349ae20413112e6fa4e89a97ea20a9eeee64b55d39a2192992a274fc1a836ba3c23a3feebbd454d4423643ce80e2a9ac94fa54ca49f",
			"dc2a4459e7369633a52b1bf277839a00201009a3efbf3ecb69bea2186c26b58909351fc9ac90b3ecfdfbc7c66431e0303dca179c138ac17ad9bef1177331a704",
		},
	}
}

// P7.1, P7.2: known keys and signatures, the chapter's example ahead of them.
func TestKnown(t *testing.T) {
	t.Parallel()
	if !strings.HasPrefix(known()[0][0], "9d61b19d") || !strings.HasPrefix(known()[0][1], "d75a9801") {
		t.Error("the chapter's example is not the first one")
	}
	for _, k := range known() {
		seed, key, message, sig := unhex(k[0]), unhex(k[1]), unhex(k[2]), unhex(k[3])
		if got, e := ed.Public(seed); got != key || e != api.OK {
			t.Errorf("Public of %x: %x, %d, not %x", seed, got, e, key)
		}
		if got, e := ed.Sign(seed, message); got != sig || e != api.OK {
			t.Errorf("Sign by %x: %x, %d, not %x", seed, got, e, sig)
		}
		if e := ed.Verify(key, message, sig); e != api.OK {
			t.Errorf("Verify by %x: %d", key, e)
		}
	}
}

// P7.1, R2: a seed of another length is refused, with nothing beside.
func TestSeedsOfOtherLengths(t *testing.T) {
	t.Parallel()
	one := seeds(2, 1)[0]
	list := []string{one[:31], one + "\x00", one + one, "\x00" + one, hex.EncodeToString([]byte(one)), strings.Repeat(one, 2048)}
	for n := range 100 {
		list = append(list, mixed(n), zeros(n))
	}
	for _, seed := range list {
		if len(seed) == 32 {
			continue
		}
		if got, e := ed.Public(seed); got != "" || e != api.ErrArg {
			t.Errorf("Public of %d bytes: %x, %d, not ErrArg", len(seed), got, e)
		}
		for _, message := range []string{"", "a", mixed(2000)} {
			if got, e := ed.Sign(seed, message); got != "" || e != api.ErrArg {
				t.Errorf("Sign by %d bytes: %x, %d, not ErrArg", len(seed), got, e)
			}
		}
	}
}

// signs tells of what is wrong with the key of a seed of 32 bytes, or with its signature of a message.
func signs(t *testing.T, seed, message string) {
	t.Helper()
	key, e := ed.Public(seed)
	if want := keyOf(seed); key != want || e != api.OK {
		t.Errorf("Public of %x: %x, %d, not %x", seed, key, e, want)
	}
	sig, e := ed.Sign(seed, message)
	if want := signed(seed, message); sig != want || e != api.OK {
		t.Errorf("Sign by %x of %d bytes: %x, %d, not %x", seed, len(message), sig, e, want)
	}
	if e := ed.Verify(key, message, sig); e != api.OK {
		t.Errorf("Verify by %x of %d bytes: %d", key, len(message), e)
	}
}

// P7.1: any seeds, whose sums have each row of the bits that are told to be 0 or 1.
func TestSeeds(t *testing.T) {
	t.Parallel()
	rows := map[byte]bool{}
	for i, seed := range append(seeds(3, 300), zeros(32), strings.Repeat("\xff", 32), mixed(32), zeros(31)+"\x01", "\x01"+zeros(31), zeros(31)+"\x80") {
		full := sha512.Sum512([]byte(seed))
		rows[full[0]&7|full[31]>>6<<3] = true
		signs(t, seed, mixed(i%200))
	}
	if len(rows) != 32 {
		t.Errorf("the seeds' sums have %d rows of bits", len(rows))
	}
}

// P7.1: the key and the signature, as the chapter tells of them.
func TestSignByTheChapter(t *testing.T) {
	t.Parallel()
	for i, seed := range seeds(4, 40) {
		full := sha512.Sum512([]byte(seed))
		n := numberOf(string(full[:32]))
		for bit, value := range map[int]uint{0: 0, 1: 0, 2: 0, 254: 1, 255: 0} {
			n.SetBit(n, bit, value)
		}
		key, message := baseTimes(n).bytes(), mixed(5*i)
		r := left(string(full[32:]), message)
		first := baseTimes(r).bytes()
		s := n.Mul(n, left(first, key, message))
		want := first + written(s.Mod(s.Add(s, r), order), 32)
		if got, e := ed.Public(seed); got != key || e != api.OK {
			t.Errorf("Public of %x: %x, %d, not %x", seed, got, e, key)
		}
		if got, e := ed.Sign(seed, message); got != want || e != api.OK {
			t.Errorf("Sign by %x: %x, %d, not %x", seed, got, e, want)
		}
	}
}

// P7.1, P7.2: messages of each length, over those at which the sums of a prefix of 32 bytes, or of 64, and the message take one block more, and long ones.
func TestMessagesOfEachLength(t *testing.T) {
	t.Parallel()
	all := seeds(5, 7)
	for n := range 300 {
		signs(t, all[n%7], mixed(n))
		signs(t, all[0], strings.Repeat([]string{"\x00", "\x80", "\xff"}[n%3], n))
	}
	for _, n := range []int{335, 336, 367, 368, 1000, 1001, 1023, 1024, 4096, api.MaxText, api.MaxText + 1, 1 << 20} {
		signs(t, all[n%7], mixed(n))
	}
}

// P7.1: messages are bytes, of which each counts.
func TestMessagesOfEachByte(t *testing.T) {
	t.Parallel()
	seed := seeds(6, 1)[0]
	was := map[string]bool{}
	for i := range 256 {
		for _, message := range []string{string([]byte{byte(i)}), mixed(130) + string([]byte{byte(i)})} {
			signs(t, seed, message)
			sig, _ := ed.Sign(seed, message)
			if was[sig[:32]] || was[sig[32:]] {
				t.Errorf("half of the signature of %x is that of another message", message)
			}
			was[sig[:32]], was[sig[32:]] = true, true
		}
	}
}
