package head_test

import (
	"crypto/ed25519"
	"strings"
	"testing"

	"imprimatur/api"
	"imprimatur/ed"
	"imprimatur/head"
	"imprimatur/octet"
)

// knownHead is one with the seed that signs, its key, what is signed, and the text; texts are in hexadecimal digits.
type knownHead struct {
	seed, key    string
	size         int
	root         string
	time         int
	signed, text string
}

func known() []knownHead {
	return []knownHead{
		{
			"9d61b19deffd5a60ba844af492ec2cc44449c5697b326919703bac031cae7f60",
			"d75a980182b10ab7d54bfed3c964073a0ee172f3daa62325af021a68f707511a",
			0, "e3b0c44298fc1c149afbf4c8996fb92427ae41e4649b934ca495991b7852b855", 0,
			"000000046865616400000008000000000000000000000008000000000000000000000020e3b0c44298fc1c149afbf4c8996fb92427ae41e4649b934ca495991b7852b855",
			"00000044000000046865616400000008000000000000000000000008000000000000000000000020e3b0c44298fc1c149afbf4c8996fb92427ae41e4649b934ca495991b7852b85500000040adfa1abd3320fc3af30a49012f44f628dd7d9e3b610fd112c74d10f5196d59caa5764d741a04b6eb1f5f5f5548e097ecf0a916ff1f6eb896aeb801cea9265f05",
		},
		{
			"4ccd089b28ff96da9db6c346ec114e0f5b8a319f35aba624da8cf6ed4fb8a6fb",
			"3d4017c3e843895a92b70aa74d1b7ebc9c982ccf2ec4968cc0cd55f12af4660c",
			4096, "000102030405060708090a0b0c0d0e0f101112131415161718191a1b1c1d1e1f", 1 << 40,
			"000000046865616400000008000000000000100000000008000001000000000000000020000102030405060708090a0b0c0d0e0f101112131415161718191a1b1c1d1e1f",
			"00000044000000046865616400000008000000000000100000000008000001000000000000000020000102030405060708090a0b0c0d0e0f101112131415161718191a1b1c1d1e1f00000040b8270618f76cde2f3efc5a6f84c1195f9e08a3d62bec339ae8e4a23ece6344f3f00f67ba3a18723cee4de17a26386582600a2faaed1ff196af5c5e45ed81900a",
		},
		{
			"9d61b19deffd5a60ba844af492ec2cc44449c5697b326919703bac031cae7f60",
			"d75a980182b10ab7d54bfed3c964073a0ee172f3daa62325af021a68f707511a",
			258, "ffffffffffffffffffffffffffffffffffffffffffffffffffffffffffffffff", 0x0102030405,
			"000000046865616400000008000000000000010200000008000000010203040500000020ffffffffffffffffffffffffffffffffffffffffffffffffffffffffffffffff",
			"00000044000000046865616400000008000000000000010200000008000000010203040500000020ffffffffffffffffffffffffffffffffffffffffffffffffffffffffffffffff000000408c0eddfd1bc30cc2d0585788ee61d2c325800dad6377748d87a9b957ec22545cc213392e2ea3b9fd7adf20fcb45543da79d7d2fed61edf0aa02f807f99eb850a",
		},
	}
}

// P10.1, P10.2: known heads are signed, checked, written and read.
func TestKnown(t *testing.T) {
	t.Parallel()
	for _, k := range known() {
		seed, key, root, message, text := unhex(k.seed), unhex(k.key), unhex(k.root), unhex(k.signed), unhex(k.text)
		want := api.Head{Size: k.size, Root: root, Time: k.time, Sig: text[len(text)-64:]}
		h, e := head.Sign(seed, k.size, root, k.time)
		if h != want || e != api.OK {
			t.Errorf("Sign of %d leaves: %x, %d, not %x", k.size, h, e, want)
		}
		if sig, _ := ed.Sign(seed, message); h.Sig != sig {
			t.Errorf("the signature of %d leaves is %x, not that of what is known to be signed", k.size, h.Sig)
		}
		if e := head.Check(key, want); e != api.OK || !head.Right(want) {
			t.Errorf("Check of %d leaves: %d", k.size, e)
		}
		if got, e := head.Print(want); got != text || e != api.OK {
			t.Errorf("Print of %d leaves: %x, %d, not %x", k.size, got, e, text)
		}
		if got, e := head.Parse(text); got != want || e != api.OK {
			t.Errorf("Parse of %d leaves: %x, %d, not %x", k.size, got, e, want)
		}
	}
}

// P10.1: which heads may be, with each part at its edges, alone, with another one's, and with all of them.
func TestRight(t *testing.T) {
	t.Parallel()
	eachHead(func(h api.Head, may bool) {
		if head.Right(h) != may {
			t.Errorf("Right of size %d, time %d, %d bytes of root and %d of signature: %t", h.Size, h.Time, len(h.Root), len(h.Sig), !may)
		}
	})
	if head.Right(api.Head{}) {
		t.Error("the head of nothing may be")
	}
	for size := -3; size <= most+3; size++ {
		h := api.Head{Size: size, Root: mixed(32), Time: size, Sig: mixed(64)}
		if want := size >= 0 && size <= most; head.Right(h) != want {
			t.Errorf("Right of size %d: %t", size, !want)
		}
	}
	for n := range 131 {
		h := api.Head{Root: mixed(32), Sig: mixed(64)}
		h.Root = mixed(n)
		if head.Right(h) != (n == 32) {
			t.Errorf("Right of a root of %d bytes: %t", n, n != 32)
		}
		h.Root, h.Sig = mixed(32), mixed(n)
		if head.Right(h) != (n == 64) {
			t.Errorf("Right of a signature of %d bytes: %t", n, n != 64)
		}
	}
}

// partsMay goes through parts of a head at their edges, without a signature.
func partsMay(look func(size int, root string, time int, may bool)) {
	for _, size := range sizes() {
		for _, time := range times() {
			for _, root := range roots() {
				look(size.value, root.value, time.value, size.may && time.may && root.may)
			}
		}
	}
}

// P10.1: what may be is signed as ed, and the library, sign what octet puts together.
func TestSign(t *testing.T) {
	t.Parallel()
	all := append(seeds(2), zeros(32), strings.Repeat("\xff", 32))
	partsMay(func(size int, root string, time int, may bool) {
		if !may {
			return
		}
		for _, seed := range all {
			h, e := head.Sign(seed, size, root, time)
			if want := headOf(seed, size, root, time); h != want || e != api.OK {
				t.Errorf("Sign by %x of %d, %x, %d: %v, %d, not %v", seed, size, root, time, h, e, want)
			}
			eight, _ := octet.Big(uint64(size), 8)
			behind, _ := octet.Big(uint64(time), 8)
			message, _ := octet.Pack("head", eight, behind, root)
			if sig, _ := ed.Sign(seed, message); h.Sig != sig {
				t.Errorf("Sign by %x of %d, %x, %d: signature %x, not %x", seed, size, root, time, h.Sig, sig)
			}
		}
	})
}

// P10.1: sizes, times and roots of all kinds.
func TestSignOfAllKinds(t *testing.T) {
	t.Parallel()
	for i, seed := range seeds(60) {
		size, root, time := i*i%(most+1), summed(seed), i<<34|i*1000003
		if h, e := head.Sign(seed, size, root, time); h != headOf(seed, size, root, time) || e != api.OK {
			t.Errorf("Sign by %x of %d, %x, %d: %v, %d", seed, size, root, time, h, e)
		}
	}
	for bit := range 41 {
		seed, root, time := seeds(1)[0], mixed(32), 1<<bit
		size := min(time, most)
		if h, e := head.Sign(seed, size, root, time); h != headOf(seed, size, root, time) || e != api.OK {
			t.Errorf("Sign of %d, %d: %v, %d", size, time, h, e)
		}
	}
}

// P10.1, R2: a wrong seed, a part that may not be, and both together: ErrArg, with no head beside it.
func TestSignRefuses(t *testing.T) {
	t.Parallel()
	one := seeds(1)[0]
	for _, seed := range []string{one, "", one[:1], one[:31], one + "\x00", one + one, strings.Repeat(one, 2048)} {
		partsMay(func(size int, root string, time int, may bool) {
			if may && len(seed) == 32 {
				return
			}
			if h, e := head.Sign(seed, size, root, time); h != (api.Head{}) || e != api.ErrArg {
				t.Errorf("Sign by %d bytes of %d, %d bytes, %d: %v, %d, not ErrArg", len(seed), size, len(root), time, h, e)
			}
		})
	}
}

// P10.1: no signature hangs on another one: what is signed is the same whatever was signed ahead of it, and whatever signature a head has.
func TestSignaturesAreNotSigned(t *testing.T) {
	t.Parallel()
	seed := seeds(1)[0]
	first, _ := head.Sign(seed, 7, mixed(32), 100)
	head.Sign(seeds(2)[1], 8, zeros(32), 101)
	again, _ := head.Sign(seed, 7, mixed(32), 100)
	if first != again {
		t.Errorf("first %v, then %v", first, again)
	}
	was := ""
	for _, sig := range []string{first.Sig, zeros(64), mixed(64)} {
		h := first
		h.Sig = sig
		text, _ := head.Print(h)
		parts, e := octet.Unpack(text)
		if e != api.OK || len(parts) != 2 || parts[1] != sig || was != "" && parts[0] != was {
			t.Errorf("with signature %x: %x, %d", sig, parts, e)
			continue
		}
		was = parts[0]
	}
}

// checks holds that Check answers what is told here.
func checks(t *testing.T, what, key string, h api.Head, want api.Errno) {
	t.Helper()
	if e := head.Check(key, h); e != want {
		t.Errorf("%s: Check by %x of %v: %d, not %d", what, key, h, e, want)
	}
}

// P10.1: what the library signed is right, at all edges of what may be.
func TestCheck(t *testing.T) {
	t.Parallel()
	for _, seed := range seeds(3) {
		partsMay(func(size int, root string, time int, may bool) {
			if may {
				checks(t, "signed", keyOf(seed), headOf(seed, size, root, time), api.OK)
			}
		})
	}
}

// P10.1: a head that may not be is ErrArg whatever the key is, and also where it is signed as it is.
func TestCheckOfWhatMayNotBe(t *testing.T) {
	t.Parallel()
	seed := seeds(1)[0]
	key := keyOf(seed)
	keys := []string{key, "", key[:31], key + "\x00", strings.Repeat("\xff", 32), zeros(32)}
	eachHead(func(h api.Head, may bool) {
		if may {
			return
		}
		for _, k := range keys {
			checks(t, "may not be", k, h, api.ErrArg)
		}
	})
	partsMay(func(size int, root string, time int, may bool) {
		if !may {
			checks(t, "signed, but may not be", key, headOf(seed, size, root, time), api.ErrArg)
		}
	})
	for _, h := range wrong(headOf(seed, 5, mixed(32), 6)) {
		for _, k := range keys {
			checks(t, "one part or two", k, h, api.ErrArg)
		}
	}
	h := headOf(seed, 5, mixed(32), 6)
	h.Sig += "\x00"
	checks(t, "a byte behind the signature", key, h, api.ErrArg)
}

// noPoint is a key for which the curve has no point: its y is above p.
func noPoint() string {
	return strings.Repeat("\xff", 32)
}

// notBelowL are 32 bytes that are no scalar's: L itself, one more, and the greatest.
func notBelowL() []string {
	order := unhex("edd3f55c1a631258d69cf7a2def9de1400000000000000000000000000000010")
	return []string{order, "\xee" + order[1:], strings.Repeat("\xff", 32), zeros(31) + "\x20"}
}

// P10.1: wrong keys and signatures of a head that may be, in the order in which ed finds what is wrong.
func TestCheckRefuses(t *testing.T) {
	t.Parallel()
	seed := seeds(1)[0]
	key, h := keyOf(seed), headOf(seed, 5, mixed(32), 6)
	half := h
	for _, last := range append(notBelowL(), zeros(32), h.Sig[:32], mixed(32)) {
		half.Sig = h.Sig[:32] + last
		for _, k := range []string{"", "k", key[:31], key + "\x00", key + key, strings.Repeat(key, 2048)} {
			checks(t, "a key's length", k, half, api.ErrArg)
			checks(t, "a key's length", k, h, api.ErrArg)
		}
		for _, k := range []string{noPoint(), "\x02" + zeros(31), "\x01" + zeros(30) + "\x80"} {
			checks(t, "no point", k, half, api.ErrPoint)
			checks(t, "no point", k, h, api.ErrPoint)
		}
	}
	for _, last := range notBelowL() {
		half.Sig = h.Sig[:32] + last
		checks(t, "no scalar", key, half, api.ErrScalar)
		half.Sig = turned(half.Sig, 9)
		checks(t, "no scalar", key, half, api.ErrScalar)
	}
	for _, other := range seeds(6)[1:] {
		checks(t, "another key", keyOf(other), h, api.ErrSig)
	}
	checks(t, "the contrary key", turned(key, 255), h, api.ErrSig)
	checks(t, "as it is", key, h, api.OK)
}

// P10.1: each bit of the signature and of the root counts, and so does the size, and the time.
func TestCheckOfOtherParts(t *testing.T) {
	t.Parallel()
	seed := seeds(1)[0]
	key, h := keyOf(seed), headOf(seed, 5, mixed(32), 6)
	for bit := range 512 {
		other := h
		other.Sig = turned(h.Sig, bit)
		want := ed.Verify(key, said(h), other.Sig)
		if want != api.ErrSig && (want != api.ErrScalar || bit < 256) {
			t.Fatalf("with bit %d of the signature another one, ed tells %d", bit, want)
		}
		checks(t, "a bit of the signature", key, other, want)
	}
	for bit := range 256 {
		other := h
		other.Root = turned(h.Root, bit)
		checks(t, "a bit of the root", key, other, api.ErrSig)
	}
	for _, size := range []int{0, 1, 4, 6, 7, 13, 21, 261, 4095, 4096} {
		other := h
		other.Size = size
		checks(t, "another size", key, other, api.ErrSig)
	}
	for _, time := range []int{0, 1, 5, 7, 14, 262, 1<<32 + 6, latest - 1, latest} {
		other := h
		other.Time = time
		checks(t, "another time", key, other, api.ErrSig)
	}
	for bit := range 40 {
		other := h
		other.Time = h.Time ^ 1<<bit
		checks(t, "a bit of the time", key, other, api.ErrSig)
	}
	other := h
	other.Size, other.Time = h.Time, h.Size
	checks(t, "size and time changed over", key, other, api.ErrSig)
}

// P10.1: a signature of what is laid otherwise is none of the head.
func TestCheckOfOtherWords(t *testing.T) {
	t.Parallel()
	seed := seeds(1)[0]
	key, h := keyOf(seed), headOf(seed, 5, mixed(32), 6)
	size, time := inBytes(5), inBytes(6)
	for what, message := range map[string]string{
		"nothing":                    "",
		"the root":                   h.Root,
		"the whole text":             textOf(h),
		"what is signed, packed":     framed(said(h)),
		"a byte more":                said(h) + "\x00",
		"a byte less":                said(h)[:67],
		"without the word":           row(size, time, h.Root),
		"another word":               row("heads", size, time, h.Root),
		"a word in capitals":         row("Head", size, time, h.Root),
		"an empty word":              row("", size, time, h.Root),
		"the word behind":            row(size, time, h.Root, "head"),
		"time first":                 row("head", time, size, h.Root),
		"root first":                 row("head", h.Root, size, time),
		"size in 4 bytes":            row("head", size[4:], time, h.Root),
		"time in 4 bytes":            row("head", size, time[4:], h.Root),
		"the lowest byte first":      row("head", "\x05"+zeros(7), "\x06"+zeros(7), h.Root),
		"without lengths":            "head" + size + time + h.Root,
		"lengths in 8 bytes":         inBytes(4) + "head" + inBytes(8) + size + inBytes(8) + time + inBytes(32) + h.Root,
		"with an empty signature":    row("head", size, time, h.Root, ""),
		"with a signature of zeros":  row("head", size, time, h.Root, zeros(64)),
		"of the next size":           said(api.Head{Size: 6, Root: h.Root, Time: 6}),
		"of the same in other bytes": row("head", zeros(1)+size[1:7]+"\x05", time, h.Root+"\x00"),
	} {
		other := h
		other.Sig = signed(seed, message)
		checks(t, what, key, other, api.ErrSig)
		if !ed25519.Verify([]byte(key), []byte(message), []byte(other.Sig)) {
			t.Errorf("%s is not signed", what)
		}
	}
}
