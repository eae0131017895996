package head_test

import (
	"slices"
	"strings"
	"testing"

	"imprimatur/api"
	"imprimatur/ed"
	"imprimatur/head"
	"imprimatur/proof"
	"imprimatur/tree"
)

// P10.4: what is signed is checked by its key, and by no other.
func TestSignedIsCheckedByItsKeyAlone(t *testing.T) {
	t.Parallel()
	all := append(seeds(8), zeros(32), strings.Repeat("\xff", 32))
	for i, seed := range all {
		h, e := head.Sign(seed, i*450, summed(seed), latest-i)
		if e != api.OK || !head.Right(h) {
			t.Fatalf("Sign by %x: %v, %d", seed, h, e)
		}
		for _, other := range all {
			key, _ := ed.Public(other)
			want := api.ErrSig
			if other == seed {
				want = api.OK
			}
			checks(t, "signed", key, h, want)
		}
		// What went through its text is the same head.
		text, _ := head.Print(h)
		read, _ := head.Parse(text)
		checks(t, "signed, written and read", keyOf(seed), read, api.OK)
		read.Time--
		checks(t, "signed, but at another time", keyOf(seed), read, api.ErrSig)
	}
}

// P10.4, P6: a head's text is read as the head; no two heads have one text.
func TestHeadsAreWrittenAndRead(t *testing.T) {
	t.Parallel()
	seen := map[string]api.Head{}
	look := func(h api.Head) {
		text, e := head.Print(h)
		if e != api.OK {
			t.Fatalf("Print of %v: %d", h, e)
		}
		if got, e := head.Parse(text); got != h || e != api.OK {
			t.Errorf("written and read: %v, %d, not %v", got, e, h)
		}
		if other, is := seen[text]; is && other != h {
			t.Errorf("%v and %v are both written %x", h, other, text)
		}
		seen[text] = h
	}
	for size := range most + 1 {
		look(api.Head{Size: size, Root: mixed(32), Time: size, Sig: mixed(64)})
		look(api.Head{Size: size, Root: summed(inBytes(uint64(size))), Time: latest - size<<20, Sig: mixed(64)})
	}
	for bit := range 256 {
		look(api.Head{Root: turned(zeros(32), bit), Sig: zeros(64)})
		look(api.Head{Root: zeros(32), Sig: turned(turned(zeros(64), bit), 511)})
	}
	for bit := range 41 {
		look(api.Head{Size: 1, Root: zeros(32), Time: 1 << bit, Sig: zeros(64)})
	}
	if len(seen) != 2*(most+1)+512+41 {
		t.Errorf("%d texts", len(seen))
	}
}

// P10.4, P6: a text that is read is the text of what it was read as.
func TestTextsAreReadAndWritten(t *testing.T) {
	t.Parallel()
	read := 0
	for _, s := range texts() {
		for bit := range 8 * len(s) {
			for _, other := range []string{turned(s, bit), turned(turned(s, bit), (bit*7+5)%(8*len(s)))} {
				h, e := head.Parse(other)
				if e != api.OK {
					continue
				}
				read++
				if got, e := head.Print(h); got != other || e != api.OK {
					t.Errorf("read and written: %x, %d, not %x", got, e, other)
				}
			}
		}
	}
	if read < 4000 {
		t.Errorf("%d texts are read", read)
	}
}

// P3, P10.4: a log that goes on: each of its heads follows each that was ahead of it, by the step from one to the other, and none that comes behind it.
func TestALogGoesOn(t *testing.T) {
	t.Parallel()
	seed, row := seeds(1)[0], leaves(12)
	var log []api.Head
	for n := range 13 {
		root, e := tree.Root(row[:n])
		h, f := head.Sign(seed, n, root, 100+n/3)
		if e != api.OK || f != api.OK || head.Check(keyOf(seed), h) != api.OK {
			t.Fatalf("the head of %d leaves: %v, %d, %d", n, h, e, f)
		}
		log = append(log, h)
	}
	for m, old := range log {
		for n, next := range log {
			var step []string
			want := api.ErrHead
			if m <= n {
				step, want = stepOf(t, row, m, n), api.OK
			}
			goes(t, "a log", old, next, step, want)
		}
	}
}

// R4: no call changes a list that it was handed, nor what stands behind its length.
func TestStepsStay(t *testing.T) {
	t.Parallel()
	row := leaves(24)
	for _, room := range []int{0, 1, 5, 40} {
		for n := range 24 {
			for m := range 24 {
				step := copied(row[:m], room)
				if m <= n {
					step = copied(stepOf(t, row, m, n), room)
				}
				was := allOf(step)
				old, next := grown(row, m, 5), grown(row, n, 6)
				head.Goes(old, next, step)
				head.Goes(next, old, step)
				head.Goes(old, old, step)
				head.Goes(old, api.Head{}, step)
				if !slices.Equal(allOf(step), was) {
					t.Fatalf("the step from %d to %d, with room for %d, is another one", m, n, room)
				}
			}
		}
	}
}

// R1: no call keeps anything.
func TestNothingIsKept(t *testing.T) {
	t.Parallel()
	seed, row := seeds(1)[0], leaves(24)
	round := func() (api.Head, api.Head, string, [4]api.Errno) {
		h, _ := head.Sign(seed, 7, rootOf(row[:7]), 5)
		text, _ := head.Print(h)
		read, _ := head.Parse(text)
		return h, read, text, [4]api.Errno{
			head.Check(keyOf(seed), h),
			head.Check(keyOf(row[0]), h),
			head.Goes(h, grown(row, 22, 6), stepOf(t, row, 7, 22)),
			head.Goes(h, grown(row, 22, 4), stepOf(t, row, 7, 22)),
		}
	}
	h, read, text, errs := round()
	other, _ := head.Sign(row[1], 22, rootOf(row[:22]), 6)
	head.Check(keyOf(row[1]), other)
	head.Print(other)
	head.Parse(textOf(other))
	head.Parse("no head")
	head.Goes(h, other, nil)
	head.Sign("no seed", -1, "", -1)
	h2, read2, text2, errs2 := round()
	if h2 != h || read2 != read || text2 != text || errs2 != errs {
		t.Errorf("first %v %v %x %v, then %v %v %x %v", h, read, text, errs, h2, read2, text2, errs2)
	}
	if errs != [4]api.Errno{api.OK, api.ErrSig, api.OK, api.ErrHead} || read != h {
		t.Errorf("%v, and %v read as %v", errs, h, read)
	}
}

// mayBe is the chapter's word, for any head.
func mayBe(h api.Head) bool {
	got, e := told(textOf(h))
	return e == api.OK && got == h
}

// goesOn is what the chapter says of Goes.
func goesOn(old, next api.Head, step []string) api.Errno {
	if !mayBe(old) || !mayBe(next) {
		return api.ErrArg
	}
	if old.Size == next.Size && old.Root != next.Root {
		return api.ErrSplit
	}
	if next.Size < old.Size || next.Time < old.Time {
		return api.ErrHead
	}
	return proof.Follows(old.Size, next.Size, old.Root, next.Root, step)
}

// P1, P10.1 to P10.4: no call panics, whatever it is handed, and each answers what the chapter says.
func FuzzAnyHead(f *testing.F) {
	seed := seeds(1)[0]
	h := headOf(seed, 5, mixed(32), 6)
	f.Add(seed, keyOf(seed), textOf(h), 5, h.Root, 6, h.Sig, 5, h.Root, 6, "")
	f.Add("", "", "", 0, "", 0, "", 0, "", 0, "")
	f.Add(seed[1:], noPoint(), textOf(h)[1:], least, "a", greatest, "b", -1, mixed(33), latest+1, mixed(31))
	f.Add(seed, noPoint(), textOf(h)+"\x00", most, zeros(32), latest, zeros(64), most, mixed(32), 0, mixed(64))
	f.Add(seed, keyOf(seed), zeros(140), 1, mixed(32), 3, mixed(64), 2, rootOf([]string{mixed(32), zeros(32)}), 3, zeros(32))
	f.Add(seed, zeros(32), row(said(h), h.Sig, ""), 0, summed(""), 3, mixed(64), 0, summed(""), 2, "")
	f.Fuzz(func(t *testing.T, seed, key, text string, size int, root string, time int, sig string, nextSize int, nextRoot string, nextTime int, sums string) {
		old := api.Head{Size: size, Root: root, Time: time, Sig: sig}
		next := api.Head{Size: nextSize, Root: nextRoot, Time: nextTime, Sig: sig}
		reads(t, "any bytes", text)
		want, wantErr := api.ErrArg, api.ErrArg
		wantText := ""
		if mayBe(old) {
			want, wantErr, wantText = ed.Verify(key, said(old), sig), api.OK, textOf(old)
		}
		if got, e := head.Print(old); got != wantText || e != wantErr {
			t.Errorf("Print of %v: %x, %d", old, got, e)
		}
		if e := head.Check(key, old); e != want || head.Right(old) != mayBe(old) {
			t.Errorf("Check by %x of %v: %d, not %d, Right %t", key, old, e, want, head.Right(old))
		}
		made := api.Head{Size: size, Root: root, Time: time, Sig: zeros(64)}
		wantErr = api.ErrArg
		if mayBe(made) && len(seed) == 32 {
			made, wantErr = headOf(seed, size, root, time), api.OK
		} else {
			made = api.Head{}
		}
		if got, e := head.Sign(seed, size, root, time); got != made || e != wantErr {
			t.Errorf("Sign by %x of %d, %x, %d: %v, %d", seed, size, root, time, got, e)
		}
		var step []string
		for chunk := range slices.Chunk([]byte(sums), 32) {
			step = append(step, string(chunk))
		}
		goes(t, "any", old, next, step, goesOn(old, next, step))
		goes(t, "any, changed over", next, old, step, goesOn(next, old, step))
	})
}
