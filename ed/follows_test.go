package ed_test

import (
	"math/big"
	"slices"
	"strings"
	"testing"

	"imprimatur/api"
	"imprimatur/ed"
)

// made are a seed's key, and its signature of a message.
func made(t *testing.T, seed, message string) (key, sig string) {
	t.Helper()
	key, e := ed.Public(seed)
	sig, f := ed.Sign(seed, message)
	if e != api.OK || f != api.OK || len(key) != 32 || len(sig) != 64 {
		t.Errorf("key %x, %d and signature %x, %d of seed %x", key, e, sig, f, seed)
	}
	return key, sig
}

// P7.3: what is signed is verified by its key, and by none of the others.
func TestSignedIsVerifiedByItsKeyAlone(t *testing.T) {
	t.Parallel()
	list := append(seeds(20, 14), zeros(32), strings.Repeat("\xff", 32))
	for i, seed := range list {
		message := mixed(i * i)
		key, sig := made(t, seed, message)
		for _, other := range list {
			otherKey, _ := made(t, other, "")
			want := api.ErrSig
			if other == seed {
				want = api.OK
			}
			if e := ed.Verify(otherKey, message, sig); e != want {
				t.Errorf("what %x signed, by the key of %x: %d, not %d", seed, other, e, want)
			}
		}
		if otherKey := turned(key, 255); ed.Verify(otherKey, message, sig) != api.ErrSig {
			t.Errorf("what %x signed is verified by its key's contrary", seed)
		}
		a, _ := pointOf(key)
		for j, b := range eight() {
			if j > 0 && ed.Verify(a.plus(b).bytes(), message, sig) != api.ErrSig {
				t.Errorf("what %x signed is verified by its key, more by a point of small order", seed)
			}
			if ed.Verify(b.bytes(), message, sig) != api.ErrSig {
				t.Errorf("what %x signed is verified by a point of small order", seed)
			}
		}
	}
}

// P7.3: a signature one of whose last 32 bytes is another one is not verified, whichever it is.
func TestEachOfTheLastBytes(t *testing.T) {
	t.Parallel()
	key, sig := made(t, seeds(21, 1)[0], "a message")
	values := []byte{0, 1, 2, 7, 8, 0x0f, 0x10, 0x11, 0x1f, 0x20, 0x40, 0x7f, 0x80, 0xed, 0xff}
	for at := 32; at < 64; at++ {
		list := slices.Clone(values)
		for bit := range 8 {
			list = append(list, sig[at]^1<<bit)
		}
		for more := range 256 {
			// Of the last byte, on which it hangs most whether the number is below L, all of them.
			if more == 1 || more == 255 || at == 63 {
				list = append(list, sig[at]+byte(more))
			}
		}
		for _, value := range list {
			other := sig[:at] + string([]byte{value}) + sig[at+1:]
			want := api.ErrSig
			if numberOf(other[32:]).Cmp(order) >= 0 {
				want = api.ErrScalar
			}
			if other == sig {
				want = api.OK
			}
			if e := ed.Verify(key, "a message", other); e != want {
				t.Errorf("byte %d as %d: %d, not %d", at, value, e, want)
			}
		}
	}
}

// P7.3: nor is one by a key that is a point of small order, or more by one of these: just one number is right for a first half.
func TestOneNumberOfEachFirstHalf(t *testing.T) {
	t.Parallel()
	for more := range int64(8) {
		for _, n := range []*big.Int{big.NewInt(0), numberOf(mixed(30))} {
			key, r := bentKey(n, more), numberOf(mixed(29))
			message, sig := key.signRight(baseTimes(r).bytes(), r, 0)
			if e := ed.Verify(key.bytes, message, sig); e != api.OK {
				t.Errorf("by %x: %d", key.bytes, e)
			}
			for at := 32; at < 64; at++ {
				if e := ed.Verify(key.bytes, message, turned(sig, 8*at)); e != api.ErrSig && e != api.ErrScalar {
					t.Errorf("by %x, with byte %d another one: %d", key.bytes, at, e)
				}
			}
		}
	}
}

// R1: no call keeps anything.
func TestNothingIsKept(t *testing.T) {
	t.Parallel()
	seed, message := seeds(22, 1)[0], mixed(200)
	round := func() [5]string {
		key, sig := made(t, seed, message)
		var errs []byte
		for _, s := range []string{sig, turned(sig, 3), turned(sig, 511), sig[:63]} {
			errs = append(errs, byte(ed.Verify(key, message, s)))
		}
		return [5]string{seed, message, key, sig, string(errs)}
	}
	first := round()
	ed.Public(mixed(32))
	ed.Sign(mixed(32), "something else")
	ed.Verify(keyOf(mixed(32)), "something else", signed(mixed(32), "something else"))
	ed.Verify("no key", "", "")
	if again := round(); again != first {
		t.Errorf("first %x, then %x", first, again)
	}
}

// P1, P7.1 to P7.3: no call panics, whatever it is handed, and each answers what the library, and the chapter's reckoning, come to.
func FuzzAnyBytes(f *testing.F) {
	seed := mixed(32)
	key, sig := keyOf(seed), signed(seed, "a")
	f.Add(seed, "a", key, sig)
	f.Add("", "", "", "")
	f.Add(zeros(32), "", zeros(32), zeros(64))
	f.Add(seed+"\x00", mixed(130), turned(zero.bytes(), 255), zero.bytes()+zeros(32))
	f.Add(seed[:31], "a", key, sig[:32]+written(order, 32))
	for _, a := range eight() {
		f.Add(seed, "a", a.bytes(), a.bytes()+zeros(32))
	}
	f.Fuzz(func(t *testing.T, seed, message, key, sig string) {
		if want := verified(key, message, sig); ed.Verify(key, message, sig) != want {
			t.Errorf("Verify(%x, %x, %x): %d, not %d", key, message, sig, ed.Verify(key, message, sig), want)
		}
		if len(seed) == 32 {
			signs(t, seed, message)
			return
		}
		own, keyError := ed.Public(seed)
		made, sigError := ed.Sign(seed, message)
		if own != "" || made != "" || keyError != api.ErrArg || sigError != api.ErrArg {
			t.Errorf("of %d bytes: key %x, %d and signature %x, %d, not ErrArg", len(seed), own, keyError, made, sigError)
		}
	})
}
