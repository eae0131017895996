package ed_test

import (
	"crypto/ed25519"
	"math/big"
	"math/rand"
	"strings"
	"testing"

	"imprimatur/api"
	"imprimatur/ed"
)

// gives tells of Verify, if it answers another thing than this, and of this, if the chapter's reckoning comes to another one.
func gives(t *testing.T, key, message, sig string, want api.Errno) {
	t.Helper()
	if got := ed.Verify(key, message, sig); got != want {
		t.Errorf("Verify(%x, %.40x, %x): %d, not %d", key, message, sig, got, want)
	}
	if got := verified(key, message, sig); got != want {
		t.Errorf("by the chapter, (%x, %.40x, %x) comes to %d, not %d", key, message, sig, got, want)
	}
	if _, is := pointOf((key + zeros(32))[:32]); len(key) == 32 && is {
		if got := ed25519.Verify([]byte(key), []byte(message), []byte(sig)); got != (want == api.OK) {
			t.Errorf("by the library, (%x, %.40x, %x) comes to %t, not %d", key, message, sig, got, want)
		}
	}
}

// bent is a key that is a point times n, and more that is one of the eight, in bytes that may be those of another telling of it.
type bent struct {
	bytes string
	n     *big.Int
	more  int64
}

// bentKey is n times the base point, and that one of the eight.
func bentKey(n *big.Int, more int64) bent {
	return bent{baseTimes(n).plus(eight()[more]).bytes(), n, more}
}

// sign is a signature with R as r times the base point, and S for which the equation holds but for points of the eight.
func (b bent) sign(message, first string, r *big.Int) string {
	s := new(big.Int).Mul(b.n, left(first, b.bytes, message))
	return first + written(s.Mod(s.Add(s, r), order), 32)
}

// rest is which of the eight must be in R, so that the equation holds, if k is that number.
func (b bent) rest(k *big.Int) int64 {
	n := new(big.Int).Mul(k, big.NewInt(-b.more))
	return n.Mod(n, big.NewInt(8)).Int64()
}

// signRight is a message, and a signature of it for which the equation holds, with R, in these bytes, r times the base point and that one of the eight; it is looked for among messages until there is one.
func (b bent) signRight(first string, r *big.Int, inFirst int64) (message, sig string) {
	for i := 0; ; i++ {
		message = mixed(i % 50)
		if i >= 50 {
			message = mixed(i)
		}
		if b.rest(left(first, b.bytes, message)) == inFirst {
			return message, b.sign(message, first, r)
		}
	}
}

// P7.2: keys and signatures of other lengths are refused, each alone and both together, whatever else is wrong.
func TestOtherLengths(t *testing.T) {
	t.Parallel()
	seed := seeds(10, 1)[0]
	key, message := keyOf(seed), mixed(20)
	sig := signed(seed, message)
	none := strings.Repeat("\xff", 200) // no point's, and too great a number
	keys := []string{key + "\x00", "\x00" + key, key + key, strings.Repeat(key, 2048)}
	sigs := []string{sig + "\x00", "\x00" + sig, sig + sig, strings.Repeat(sig, 2048)}
	for n := range 140 {
		if n != 32 {
			keys = append(keys, (key + mixed(200))[:n], none[:n])
		}
		if n != 64 {
			sigs = append(sigs, (sig + mixed(200))[:n], none[:n])
		}
	}
	for _, other := range keys {
		for _, s := range []string{sig, none[:64], sig[:32] + none[:32], none[:32] + sig[32:], sig[:63], ""} {
			gives(t, other, message, s, api.ErrArg)
		}
	}
	for _, other := range sigs {
		for _, k := range []string{key, none[:32], key[:31], ""} {
			gives(t, k, message, other, api.ErrArg)
		}
		gives(t, key, "", other, api.ErrArg)
	}
	for _, n := range []int{0, 31, 33} {
		for _, m := range []int{0, 32, 63, 65, 128} {
			gives(t, (key + key)[:n], message, (sig + sig)[:m], api.ErrArg)
		}
	}
	gives(t, key, message, sig, api.OK)
	gives(t, sig, message, key, api.ErrArg)
}

// noPoints are keys that no point has: a y of p or more, one for which there is no x, an x of 0 that is asked to be odd. Of those that are other tellings of one of the eight, more is which.
func noPoints() []bent {
	var list []bent
	for more := range int64(19) {
		y := moreBy(p, more)
		list = append(list, bent{bytes: written(y, 32)}, bent{bytes: written(sum(y, powerOfTwo(255)), 32)})
	}
	for y := int64(2); len(list) < 60; y++ {
		if _, is := atY(big.NewInt(y), false); !is {
			list = append(list, bent{bytes: written(big.NewInt(y), 32)}, bent{bytes: written(sum(big.NewInt(y), powerOfTwo(255)), 32)})
		}
	}
	list = append(list, bent{bytes: turned(zero.bytes(), 255)}, bent{bytes: turned(eight()[4].bytes(), 255)})
	for i := range list {
		list[i].n = big.NewInt(0)
		if a, is := anyOf(list[i].bytes); is {
			list[i].more = -1
			for j, b := range eight() {
				if a.is(b) {
					list[i].more = int64(j)
				}
			}
		} else {
			list[i].more = -1
		}
	}
	return list
}

// P7.2: a key that is no point's comes ahead of all that may be wrong with a signature of 64 bytes, and is refused too where the signature would be right by another telling of a point.
func TestKeysOfNoPoint(t *testing.T) {
	t.Parallel()
	right := 0
	for _, key := range noPoints() {
		sig, message := signed(seeds(11, 1)[0], "a"), "a"
		if key.more >= 0 {
			right++
			r := numberOf(mixed(20))
			message, sig = key.signRight(baseTimes(r).bytes(), r, 0)
			a, _ := anyOf(key.bytes)
			if got := rightFirst(a, key.bytes, message, sig); got != sig[:32] {
				t.Errorf("a signature by %x is not right: %x", key.bytes, sig)
			}
		}
		for _, s := range []string{sig, turned(sig, 0), turned(sig, 256), sig[:32] + written(order, 32), sig[:32] + strings.Repeat("\xff", 32), key.bytes + sig[32:], strings.Repeat("\xff", 64), zeros(64)} {
			gives(t, key.bytes, message, s, api.ErrPoint)
		}
		for _, s := range []string{"", sig[:63], sig + "\x00", strings.Repeat("\xff", 65)} {
			gives(t, key.bytes, message, s, api.ErrArg)
		}
	}
	if right != 6 {
		t.Errorf("%d keys are other tellings of one of the eight", right)
	}
}

// tooGreat are 32 bytes of all numbers from L on that leave what n does, divided by L.
func tooGreat(n *big.Int) []string {
	var list []string
	for n = sum(n, order); n.BitLen() <= 256; n = sum(n, order) {
		list = append(list, written(n, 32))
	}
	return list
}

// P7.2: a signature's number of L or more is refused, though what it leaves, divided by L, would be right.
func TestNumbersOfLAndMore(t *testing.T) {
	t.Parallel()
	for i, seed := range seeds(12, 10) {
		key, message := keyOf(seed), mixed(20*i)
		sig := signed(seed, message)
		list := tooGreat(numberOf(sig[32:]))
		if len(list) < 14 {
			t.Errorf("%d numbers leave the same", len(list))
		}
		for _, s := range append(list, strings.Repeat("\xff", 32)) {
			gives(t, key, message, sig[:32]+s, api.ErrScalar)
			gives(t, key, message, turned(sig, i)[:32]+s, api.ErrScalar)
			gives(t, key, message, strings.Repeat("\xff", 32)+s, api.ErrScalar)
			gives(t, key, message+"a", sig[:32]+s, api.ErrScalar)
		}
		for more := int64(-2); more <= 2; more++ {
			want := api.ErrScalar
			if more < 0 {
				want = api.ErrSig
			}
			gives(t, key, message, sig[:32]+written(moreBy(order, more), 32), want)
		}
		for bit := uint(250); bit < 256; bit++ {
			want := api.ErrScalar
			if bit <= 252 {
				want = api.ErrSig
			}
			gives(t, key, message, sig[:32]+written(powerOfTwo(bit), 32), want)
		}
	}
}

// P7.2: signatures of numbers about which one may go wrong, by keys for which they can be right.
func TestNumbersAtEdges(t *testing.T) {
	t.Parallel()
	for more := range int64(8) {
		key := bentKey(big.NewInt(0), more)
		for _, s := range []*big.Int{big.NewInt(0), big.NewInt(1), big.NewInt(2), moreBy(order, -2), moreBy(order, -1), powerOfTwo(252), moreBy(powerOfTwo(252), -1), new(big.Int).Rsh(order, 1), powerOfTwo(64), powerOfTwo(128), powerOfTwo(192)} {
			message, sig := key.signRight(baseTimes(s).bytes(), s, 0)
			gives(t, key.bytes, message, sig, api.OK)
			for _, other := range tooGreat(s) {
				gives(t, key.bytes, message, sig[:32]+other, api.ErrScalar)
			}
			if below := moreBy(s, -1); below.Sign() >= 0 {
				gives(t, key.bytes, message, sig[:32]+written(below, 32), api.ErrSig)
			}
		}
	}
}

// P7.2: a first half that is no point's, with any number.
func TestFirstHalvesOfNoPoint(t *testing.T) {
	t.Parallel()
	seed := seeds(13, 1)[0]
	key, message := keyOf(seed), mixed(10)
	sig := signed(seed, message)
	small := bentKey(big.NewInt(0), 2).bytes
	for _, first := range noPoints() {
		for _, s := range []string{sig[32:], zeros(32), "\x01" + zeros(31), written(moreBy(order, -1), 32)} {
			gives(t, key, message, first.bytes+s, api.ErrSig)
			if first.more < 0 {
				gives(t, small, message, first.bytes+s, api.ErrSig)
				gives(t, zero.bytes(), message, first.bytes+s, api.ErrSig)
			}
		}
	}
}

// P7.2: a first half that is another telling of the right point is refused, and just the one telling that is the point's bytes passes.
func TestOtherTellingsOfTheRightPoint(t *testing.T) {
	t.Parallel()
	tellings := 0
	for _, first := range noPoints() {
		if first.more < 0 {
			continue
		}
		tellings++
		own := eight()[first.more].bytes()
		for _, n := range []*big.Int{big.NewInt(0), big.NewInt(1), numberOf(mixed(31))} {
			for _, key := range []bent{bentKey(n, 1), bentKey(n, 3)} {
				message, sig := key.signRight(first.bytes, big.NewInt(0), first.more)
				gives(t, key.bytes, message, sig, api.ErrSig)
				a, _ := pointOf(key.bytes)
				if got := rightFirst(a, key.bytes, message, sig); got != own {
					t.Errorf("%x is no other telling of %x", first.bytes, got)
				}
				message, sig = key.signRight(own, big.NewInt(0), first.more)
				gives(t, key.bytes, message, sig, api.OK)
			}
		}
	}
	if tellings != 6 {
		t.Errorf("%d other tellings of the eight", tellings)
	}
}

// P7.2: each bit of the key, of a short message and of the signature counts.
func TestEachBit(t *testing.T) {
	t.Parallel()
	for i, seed := range seeds(14, 2) {
		key, message := keyOf(seed), mixed(30+170*i)
		sig := signed(seed, message)
		step := 1 + 6*i // for a long message a few bits do
		for bit := 0; bit < 512; bit += step {
			other := turned(sig, bit)
			want := api.ErrSig
			if bit >= 256 && numberOf(other[32:]).Cmp(order) >= 0 {
				want = api.ErrScalar
			}
			gives(t, key, message, other, want)
		}
		for bit := 0; bit < 256; bit += step {
			other := turned(key, bit)
			want := api.ErrSig
			if _, is := pointOf(other); !is {
				want = api.ErrPoint
			}
			gives(t, other, message, sig, want)
		}
		for bit := 0; bit < 8*len(message); bit += step {
			gives(t, key, turned(message, bit), sig, api.ErrSig)
		}
	}
}

// P7.2: another message, or another key, or halves of two signatures.
func TestOthers(t *testing.T) {
	t.Parallel()
	all := seeds(15, 4)
	for i, seed := range all {
		key, other := keyOf(seed), keyOf(all[(i+1)%4])
		for _, n := range []int{0, 1, 47, 48, 64, 79, 80, 2000} {
			message := mixed(n)
			sig := signed(seed, message)
			gives(t, key, message, sig, api.OK)
			gives(t, other, message, sig, api.ErrSig)
			for _, m := range []string{message + "\x00", "\x00" + message, message + message + "a", key + message, sig[:32] + message, sig[:32] + key + message} {
				gives(t, key, m, sig, api.ErrSig)
			}
			if n > 0 {
				gives(t, key, message[:n-1], sig, api.ErrSig)
				gives(t, key, message[1:], sig, api.ErrSig)
				gives(t, key, "", sig, api.ErrSig)
			}
			more := signed(seed, message+"more")
			gives(t, key, message, sig[:32]+more[32:], api.ErrSig)
			gives(t, key, message, more[:32]+sig[32:], api.ErrSig)
			gives(t, key, message, sig[32:]+sig[:32], verified(key, message, sig[32:]+sig[:32]))
			gives(t, key, message, key+sig[32:], api.ErrSig)
		}
	}
}

// P7.2: keys of small order, and those that are one of these more than another: what is right is so by the equation as it is, with k below L, and not with both sides times 8.
func TestKeysOfSmallOrder(t *testing.T) {
	t.Parallel()
	r := rand.New(rand.NewSource(16))
	count := map[string]int{}
	for _, n := range []*big.Int{big.NewInt(0), numberOf(mixed(31)), big.NewInt(1), moreBy(order, -1)} {
		for more := range int64(8) {
			key := bentKey(n, more)
			for inFirst := range int64(8) {
				for i := range 3 {
					much, message := new(big.Int).Rand(r, order), mixed(r.Intn(100))
					first := baseTimes(much).plus(eight()[inFirst]).bytes()
					sig := key.sign(message, first, much)
					want := api.ErrSig
					if key.rest(left(first, key.bytes, message)) == inFirst {
						want = api.OK
						count["right"]++
					} else {
						count["wrong"]++
					}
					if i == 0 && !passesBy8(key.bytes, message, sig) {
						t.Errorf("times 8, it does not hold: (%x, %x, %x)", key.bytes, message, sig)
					}
					if aWhole := key.rest(whole(first, key.bytes, message)) == inFirst; aWhole != (want == api.OK) {
						count["another one by the whole of k"]++
					}
					gives(t, key.bytes, message, sig, want)
				}
			}
		}
	}
	for _, what := range []string{"right", "wrong", "another one by the whole of k"} {
		if count[what] < 50 {
			t.Errorf("%d signatures are %s", count[what], what)
		}
	}
}

// P7.2: by Zero, what is signed is the number alone, whatever the message.
func TestKeyZero(t *testing.T) {
	t.Parallel()
	for i, s := range []*big.Int{big.NewInt(0), big.NewInt(1), numberOf(mixed(31)), moreBy(order, -1)} {
		for n := range 20 {
			first := baseTimes(s).bytes()
			gives(t, zero.bytes(), mixed(7*n), first+written(s, 32), api.OK)
			gives(t, zero.bytes(), mixed(7*n), turned(first, i+n)+written(s, 32), api.ErrSig)
			gives(t, turned(zero.bytes(), 255), mixed(7*n), first+written(s, 32), api.ErrPoint)
		}
	}
}
