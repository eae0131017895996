package head_test

import (
	"math/rand"
	"strings"
	"testing"

	"imprimatur/api"
	"imprimatur/head"
)

// P10.2: the text of what may be; of what may not be ErrArg, with no text beside it.
func TestPrint(t *testing.T) {
	t.Parallel()
	eachHead(func(h api.Head, may bool) {
		want, wantErr := "", api.ErrArg
		if may {
			want, wantErr = textOf(h), api.OK
		}
		if got, e := head.Print(h); got != want || e != wantErr {
			t.Errorf("Print of size %d, time %d, %d bytes of root and %d of signature: %x, %d, not %x, %d", h.Size, h.Time, len(h.Root), len(h.Sig), got, e, want, wantErr)
		}
	})
	if got, e := head.Print(api.Head{}); got != "" || e != api.ErrArg {
		t.Errorf("Print of the head of nothing: %x, %d", got, e)
	}
}

// P10.2: a signature that is not right is written as it is.
func TestPrintOfAnySignature(t *testing.T) {
	t.Parallel()
	h := headOf(seeds(1)[0], 5, mixed(32), 6)
	for _, sig := range []string{h.Sig, turned(h.Sig, 0), zeros(64), strings.Repeat("\xff", 64), h.Sig[32:] + h.Sig[:32]} {
		h.Sig = sig
		if got, e := head.Print(h); got != textOf(h) || e != api.OK {
			t.Errorf("Print with signature %x: %x, %d", sig, got, e)
		}
		if got, e := head.Parse(textOf(h)); got != h || e != api.OK {
			t.Errorf("Parse with signature %x: %v, %d", sig, got, e)
		}
	}
}

// reads holds that Parse answers what the places in the text tell.
func reads(t *testing.T, what, s string) {
	t.Helper()
	want, wantErr := told(s)
	if got, e := head.Parse(s); got != want || e != wantErr {
		t.Errorf("%s: Parse of %d bytes, %.160x: %v, %d, not %v, %d", what, len(s), s, got, e, want, wantErr)
	}
}

// refuses holds that Parse answers ErrHead, with no head beside it.
func refuses(t *testing.T, what, s string) {
	t.Helper()
	if got, e := head.Parse(s); got != (api.Head{}) || e != api.ErrHead {
		t.Errorf("%s: Parse of %d bytes, %.160x: %v, %d, not ErrHead", what, len(s), s, got, e)
	}
	if _, e := told(s); e != api.ErrHead {
		t.Errorf("%s: by its places it tells a head: %.160x", what, s)
	}
}

// P10.2: texts of heads that may be are read, those of all others are not.
func TestParse(t *testing.T) {
	t.Parallel()
	eachHead(func(h api.Head, may bool) {
		if !may {
			refuses(t, "may not be", textOf(h))
			return
		}
		if got, e := head.Parse(textOf(h)); got != h || e != api.OK {
			t.Errorf("Parse of %v: %v, %d", h, got, e)
		}
	})
	for _, h := range wrong(headOf(seeds(1)[0], 5, mixed(32), 6)) {
		refuses(t, "one part or two", textOf(h))
	}
}

// texts are those of a few heads: with the least parts, the greatest, and others.
func texts() []string {
	var list []string
	for _, h := range []api.Head{
		{Root: zeros(32), Sig: zeros(64)},
		{Size: most, Root: strings.Repeat("\xff", 32), Time: latest, Sig: strings.Repeat("\xff", 64)},
		headOf(seeds(1)[0], 5, mixed(32), 6),
		headOf(seeds(1)[0], 1000, rootOf(leaves(1000)), 1<<39+12345),
	} {
		list = append(list, textOf(h))
	}
	return list
}

// P10.2: no part of a text is one, and none is one with something behind it, ahead of it, or in it.
func TestParseOfOtherLengths(t *testing.T) {
	t.Parallel()
	refuses(t, "nothing", "")
	for _, s := range texts() {
		for n := range len(s) {
			refuses(t, "the first bytes", s[:n])
			refuses(t, "the last bytes", s[n+1:])
			refuses(t, "a byte less", s[:n]+s[n+1:])
			for _, b := range []string{"\x00", "\xff", s[n : n+1], "h", "\x04"} {
				refuses(t, "a byte more", s[:n]+b+s[n:])
			}
		}
		for _, more := range []string{"\x00", "\xff", "\x00\x00\x00\x00", framed("a"), framed(""), s, s[72:], zeros(100)} {
			refuses(t, "a part more", s+more)
			refuses(t, "a part more ahead", more+s)
		}
	}
}

// P10.2: more than 65536 bytes, and as many.
func TestParseOfLongTexts(t *testing.T) {
	t.Parallel()
	for _, s := range texts() {
		for _, n := range []int{65535, 65536, 65537, 1 << 20} {
			refuses(t, "with bytes behind", s+zeros(n-len(s)))
			refuses(t, "with a part behind", s+framed(zeros(n-len(s)-4)))
			refuses(t, "nothing but zeros", zeros(n))
			refuses(t, "a great signature", framed(s[4:72])+framed(zeros(n-76)))
			refuses(t, "a great first part", framed(s[4:72]+zeros(n-144))+s[72:])
		}
	}
	refuses(t, "64 empty parts", zeros(4*64))
	refuses(t, "65 empty parts", zeros(4*65))
	refuses(t, "as many heads as there is room for", strings.Repeat(texts()[2], 65536/140))
}

// P10.2: with one bit another one: none is read in the lengths and in the word; in all other places what it tells.
func TestParseWithABitTurned(t *testing.T) {
	t.Parallel()
	for _, s := range texts() {
		read := 0
		for bit := range 8 * len(s) {
			other := turned(s, bit)
			at := bit / 8
			if at < atSize || at >= atSize+8 && at < atTime || at >= atTime+8 && at < atRoot || at >= atRoot+32 && at < atSig {
				refuses(t, "a bit of a length, or of the word", other)
				continue
			}
			reads(t, "a bit of a part", other)
			if _, e := head.Parse(other); e == api.OK {
				read++
			}
		}
		if read < 8*(32+64) {
			t.Errorf("%d texts of %x with a bit turned are read", read, s)
		}
	}
}

// P10.2: each byte as any other one.
func TestParseWithAnotherByte(t *testing.T) {
	t.Parallel()
	for _, s := range texts() {
		for at := range len(s) {
			for value := range 256 {
				reads(t, "another byte", s[:at]+string([]byte{byte(value)})+s[at+1:])
			}
		}
	}
}

// P10.2: lengths that are all of another number, at each of their places.
func TestParseOfOtherTellingsOfLengths(t *testing.T) {
	t.Parallel()
	for _, s := range texts() {
		for at, length := range lengths() {
			for n := range 200 {
				if other := framed(zeros(n))[:4]; other != length {
					refuses(t, "another length", s[:at]+other+s[at+4:])
				}
			}
			for _, other := range []string{"\xff\xff\xff\xff", "\x80\x00\x00\x00", "\x00\x01\x00\x00", "\x00\x00\xff\xff", "\x7f\xff\xff\xff"} {
				refuses(t, "a great length", s[:at]+other+s[at+4:])
			}
			refuses(t, "the lowest byte first", s[:at]+length[3:]+length[2:3]+length[1:2]+length[:1]+s[at+4:])
		}
	}
}

// P10.2: numbers of all sizes in 8 bytes, and none of other widths.
func TestParseOfNumbers(t *testing.T) {
	t.Parallel()
	root, sig := mixed(32), mixed(64)
	of := func(size, time string) string { return row(row("head", size, time, root), sig) }
	numbers := []uint64{0, 1, 4095, 4096, 4097, 5000, latest - 1, latest, latest + 1, 1<<32 - 1, 1 << 32, 1<<32 + 5, 1 << 41, 1<<63 - 1, 1 << 63, 1<<63 + 5, 1<<64 - 4096, 1<<64 - 1}
	for bit := range 64 {
		numbers = append(numbers, 1<<bit, 1<<bit-1, 1<<bit+1)
	}
	for _, n := range numbers {
		size, time := inBytes(n), inBytes(n)
		reads(t, "a size", of(size, inBytes(7)))
		reads(t, "a time", of(inBytes(7), time))
		if n > most {
			refuses(t, "a great size", of(size, inBytes(7)))
		}
		if n > latest {
			refuses(t, "a great time", of(inBytes(7), time))
			refuses(t, "both too great", of(size, time))
		}
		for _, zero := range []string{zeros(1), zeros(2), zeros(8)} {
			refuses(t, "a wide size", of(zero+size, inBytes(7)))
			refuses(t, "a wide time", of(inBytes(7), zero+time))
		}
		for cut := 1; cut <= 8; cut++ {
			refuses(t, "a narrow size", of(size[cut:], inBytes(7)))
			refuses(t, "a narrow time", of(inBytes(7), time[cut:]))
			refuses(t, "narrow both", of(size[cut:], time[cut:]))
			refuses(t, "a narrow size and a wide time", of(size[cut:], zeros(cut)+time))
		}
		refuses(t, "a size with a byte behind", of(size+"\x00", inBytes(7)))
		refuses(t, "digits for a size", of("5", inBytes(7)))
	}
}

// P10.2: other words in the place of `head`.
func TestParseOfOtherWords(t *testing.T) {
	t.Parallel()
	for _, word := range []string{"", "h", "hea", "heads", "Head", "HEAD", "haed", "daeh", "tail", "head\x00", " head", "head ", "\x00\x00\x00\x00", "release", "meta", "root", strings.Repeat("head", 16)} {
		refuses(t, "another word", row(row(word, inBytes(5), inBytes(6), mixed(32)), mixed(64)))
	}
}

// P10.2: roots and signatures of other lengths.
func TestParseOfOtherSums(t *testing.T) {
	t.Parallel()
	for n := range 200 {
		if n != 32 {
			refuses(t, "another root", row(row("head", inBytes(5), inBytes(6), mixed(n)), mixed(64)))
			refuses(t, "another root", row(row("head", inBytes(5), inBytes(6), mixed(n)), mixed(96-min(n, 96))))
		}
		if n != 64 {
			refuses(t, "another signature", row(row("head", inBytes(5), inBytes(6), mixed(32)), mixed(n)))
		}
	}
}

// P10.2: one part too few, one too many, in both of the two layers, and parts in other places.
func TestParseOfOtherRows(t *testing.T) {
	t.Parallel()
	size, time, root, sig := inBytes(5), inBytes(6), mixed(32), mixed(64)
	inner := []string{"head", size, time, root}
	refuses(t, "no outer parts", row())
	refuses(t, "what is signed alone", row(row(inner...)))
	refuses(t, "what is signed, in no layer", row(inner...))
	refuses(t, "the signature alone", row(sig))
	refuses(t, "both changed over", row(sig, row(inner...)))
	refuses(t, "an empty first part", row("", sig))
	refuses(t, "an empty second part", row(row(inner...), ""))
	refuses(t, "two signatures", row(row(inner...), sig, sig))
	refuses(t, "twice what is signed", row(row(inner...), row(inner...), sig))
	refuses(t, "all in one layer", row("head", size, time, root, sig))
	refuses(t, "the word in the outer layer", row("head", row(size, time, root), sig))
	refuses(t, "a layer more", row(row(row(inner...), sig)))
	refuses(t, "a layer more, inside", row(row(row(inner...)), sig))
	refuses(t, "a layer less", row("head"+size+time+root, sig))
	for i := range inner {
		less := append(append([]string(nil), inner[:i]...), inner[i+1:]...)
		refuses(t, "an inner part less", row(row(less...), sig))
	}
	for i := range 5 {
		for _, part := range []string{"", "head", size, time, root, sig, "a"} {
			more := append(append(append([]string(nil), inner[:i]...), part), inner[i:]...)
			refuses(t, "an inner part more", row(row(more...), sig))
		}
	}
	for i := range 3 {
		for _, part := range []string{"", "head", root, sig, row(inner...), "a"} {
			outer := []string{row(inner...), sig}
			more := append(append(append([]string(nil), outer[:i]...), part), outer[i:]...)
			refuses(t, "an outer part more", row(more...))
		}
	}
	for _, behind := range []string{"\x00", "\x00\x00\x00", "\x00\x00\x00\x05a"} {
		refuses(t, "half a part behind the inner ones", row(row(inner...)+behind, sig))
		refuses(t, "half a part behind the outer ones", row(row(inner...), sig)+behind)
	}
	refuses(t, "root ahead of time", row(row("head", size, root, time), sig))
	refuses(t, "the word behind", row(row(size, time, root, "head"), sig))
	// Size and time are told apart by their places alone.
	changed := row(row("head", time, size, root), sig)
	if h, e := head.Parse(changed); e != api.OK || h.Size != 6 || h.Time != 5 {
		t.Errorf("time ahead of size: %v, %d", h, e)
	}
	refuses(t, "a time in the place of a size", row(row("head", inBytes(latest), size, root), sig))
}

// P10.2: texts of any bytes, with several bytes turned, and texts put together of two.
func TestParseOfAnyTexts(t *testing.T) {
	t.Parallel()
	r := rand.New(rand.NewSource(10))
	list := texts()
	read := 0
	for range 30000 {
		a, b := list[r.Intn(len(list))], list[r.Intn(len(list))]
		cut := r.Intn(len(a) + 1)
		s := a[:cut] + b[cut:]
		for range r.Intn(3) {
			s = turned(s, r.Intn(8*len(s)))
		}
		reads(t, "any", s)
		if _, e := head.Parse(s); e == api.OK {
			read++
		}
		b = list[r.Intn(len(list))]
		reads(t, "of two", a[:cut]+b[r.Intn(len(b)+1):])
	}
	if read < 1000 {
		t.Errorf("%d texts are read", read)
	}
}
