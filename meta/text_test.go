package meta_test

import (
	"fmt"
	"slices"
	"strings"
	"testing"

	"imprimatur/api"
	"imprimatur/meta"
)

// RFC 8032's keys of tests 1 and 2, their sums, and sums of `abc` and of `a`, all in digits.
const (
	firstKey  = "d75a980182b10ab7d54bfed3c964073a0ee172f3daa62325af021a68f707511a"
	firstId   = "21fe31dfa154a261626bf854046fd2271b7bed4b6abe45aa58877ef47f9721b9"
	secondKey = "3d4017c3e843895a92b70aa74d1b7ebc9c982ccf2ec4968cc0cd55f12af4660c"
	secondId  = "39f713d0a644253f04529421b9f51b9b08979d08295959c4f3990ee617f5139f"
	ofAbc     = "ba7816bf8f01cfea414140de5dae2223b00361a396177a9cb410ff61f20015ad"
	ofA       = "ca978112ca1bbdcafac231b39a23dc4da786eff8147c4e72b9807785afee48bb"
)

// written is metadata with what is signed of it, written out by hand.
type written struct {
	m    api.Meta
	body string
}

func byHand() []written {
	keys := []api.Key{{Id: firstId, Public: bytes(firstKey)}, {Id: secondId, Public: bytes(secondKey)}}
	first, both := api.Role{Ids: []string{firstId}, Need: 1}, api.Role{Ids: []string{firstId, secondId}, Need: 2}
	abc := api.File{Name: "abc", Size: 3, Sum: bytes(ofAbc)}
	return []written{
		{
			api.Meta{Kind: api.MTimestamp, Version: 1, Expires: 9, Files: []api.File{{Name: "snapshot", Version: 1, Size: 3, Sum: bytes(ofAbc)}}},
			`{"expires":9,"files":[{"name":"snapshot","size":3,"sum":"ba7816bf8f01cfea414140de5dae2223b00361a396177a9cb410ff61f20015ad","version":1}],"kind":"timestamp","version":1}`,
		},
		{
			api.Meta{Kind: api.MRoot, Version: 2, Expires: 1099511627776, Keys: keys, Roles: []api.Role{both, first, first, both}, Log: strings.Repeat("\x00\xab", 16)},
			`{"expires":1099511627776,"keys":[` +
				`{"id":"21fe31dfa154a261626bf854046fd2271b7bed4b6abe45aa58877ef47f9721b9","public":"d75a980182b10ab7d54bfed3c964073a0ee172f3daa62325af021a68f707511a"},` +
				`{"id":"39f713d0a644253f04529421b9f51b9b08979d08295959c4f3990ee617f5139f","public":"3d4017c3e843895a92b70aa74d1b7ebc9c982ccf2ec4968cc0cd55f12af4660c"}],` +
				`"kind":"root","log":"00ab00ab00ab00ab00ab00ab00ab00ab00ab00ab00ab00ab00ab00ab00ab00ab","roles":[` +
				`{"ids":["21fe31dfa154a261626bf854046fd2271b7bed4b6abe45aa58877ef47f9721b9","39f713d0a644253f04529421b9f51b9b08979d08295959c4f3990ee617f5139f"],"need":2},` +
				`{"ids":["21fe31dfa154a261626bf854046fd2271b7bed4b6abe45aa58877ef47f9721b9"],"need":1},` +
				`{"ids":["21fe31dfa154a261626bf854046fd2271b7bed4b6abe45aa58877ef47f9721b9"],"need":1},` +
				`{"ids":["21fe31dfa154a261626bf854046fd2271b7bed4b6abe45aa58877ef47f9721b9","39f713d0a644253f04529421b9f51b9b08979d08295959c4f3990ee617f5139f"],"need":2}],` +
				`"version":2}`,
		},
		{
			api.Meta{Kind: api.MSnapshot, Version: 1000000, Expires: 0, Files: []api.File{{Name: "one", Version: 1000000, Size: 65536, Sum: bytes(ofA)}, {Name: "targets", Version: 7, Size: 0, Sum: bytes(ofAbc)}}},
			`{"expires":0,"files":[{"name":"one","size":65536,"sum":"ca978112ca1bbdcafac231b39a23dc4da786eff8147c4e72b9807785afee48bb","version":1000000},` +
				`{"name":"targets","size":0,"sum":"ba7816bf8f01cfea414140de5dae2223b00361a396177a9cb410ff61f20015ad","version":7}],"kind":"snapshot","version":1000000}`,
		},
		{
			api.Meta{Kind: api.MSnapshot, Version: 3, Expires: 4},
			`{"expires":4,"files":[],"kind":"snapshot","version":3}`,
		},
		{
			api.Meta{Kind: api.MTargets, Version: 1, Expires: 50},
			`{"delegs":[],"expires":50,"files":[],"keys":[],"kind":"targets","version":1}`,
		},
		{
			api.Meta{Kind: api.MTargets, Version: 4, Expires: 60, Files: []api.File{abc}, Keys: keys[1:], Delegs: []api.Deleg{
				{Name: "one", Role: first, Paths: []string{"a/*"}, Last: true}, {Name: "a-2", Role: both, Paths: []string{"b/?.x", "*"}},
			}},
			`{"delegs":[` +
				`{"last":1,"name":"one","paths":["a/*"],"role":{"ids":["21fe31dfa154a261626bf854046fd2271b7bed4b6abe45aa58877ef47f9721b9"],"need":1}},` +
				`{"last":0,"name":"a-2","paths":["b/?.x","*"],"role":{"ids":["21fe31dfa154a261626bf854046fd2271b7bed4b6abe45aa58877ef47f9721b9","39f713d0a644253f04529421b9f51b9b08979d08295959c4f3990ee617f5139f"],"need":2}}],` +
				`"expires":60,` +
				`"files":[{"name":"abc","size":3,"sum":"ba7816bf8f01cfea414140de5dae2223b00361a396177a9cb410ff61f20015ad","version":0}],` +
				`"keys":[{"id":"39f713d0a644253f04529421b9f51b9b08979d08295959c4f3990ee617f5139f","public":"3d4017c3e843895a92b70aa74d1b7ebc9c982ccf2ec4968cc0cd55f12af4660c"}],` +
				`"kind":"targets","version":4}`,
		},
	}
}

// The chapter's example, P15.1: what is signed, and the text with no signature, with one and with two, written out by hand.
func TestWrittenByHand(t *testing.T) {
	t.Parallel()
	sigs := []api.Sig{{Id: secondId, Sig: strings.Repeat("\x00\xff", 32)}, {Id: firstId, Sig: strings.Repeat("a", 64)}}
	one := `{"id":"39f713d0a644253f04529421b9f51b9b08979d08295959c4f3990ee617f5139f","sig":"` + strings.Repeat("00ff", 32) + `"}`
	two := one + `,{"id":"21fe31dfa154a261626bf854046fd2271b7bed4b6abe45aa58877ef47f9721b9","sig":"` + strings.Repeat("61", 64) + `"}`
	for _, w := range byHand() {
		if body, e := meta.Body(w.m); body != w.body || e != api.OK {
			t.Errorf("Body %q, %d, not %q", body, e, w.body)
		}
		if bodyOf(w.m) != w.body {
			t.Errorf("by the chapter's words %q, not %q", bodyOf(w.m), w.body)
		}
		for n, row := range []string{"", one, two} {
			want := `{"meta":` + w.body + `,"sigs":[` + row + `]}`
			if s, e := meta.Print(w.m, sigs[:n]...); s != want || e != api.OK {
				t.Errorf("Print with %d signatures %q, %d, not %q", n, s, e, want)
			}
			readsAs(t, "by hand", want, w.m, sigs[:n]...)
		}
	}
}

// P15.1: none to 16 signatures, in any order, by one key or by many.
func TestHowManySigs(t *testing.T) {
	t.Parallel()
	for _, m := range ordinary() {
		for _, n := range []int{0, 1, 2, 3, 15, 16, 17, 18, 40} {
			row := sigRow(n)
			back := slices.Clone(row)
			slices.Reverse(back)
			for _, row := range [][]api.Sig{row, append([]api.Sig{}, row...), back, byOne(row)} {
				prints(t, fmt.Sprint(n, " signatures"), m, true, row...)
				if n <= 16 {
					readsAs(t, fmt.Sprint(n, " signatures"), textOf(m, row...), m, row...)
				} else {
					refuses(t, fmt.Sprint(n, " signatures"), textOf(m, row...), api.ErrSchema)
				}
			}
		}
	}
}

// byOne are signatures of one key, one of them twice.
func byOne(row []api.Sig) []api.Sig {
	out := slices.Clone(row)
	for i := range out {
		out[i] = api.Sig{Id: row[0].Id, Sig: row[max(i-1, 0)].Sig}
	}
	return out
}

// sigsThatMayNotBe are such.
func sigsThatMayNotBe() []api.Sig {
	good := sigRow(1)[0]
	id, sig := good.Id, good.Sig
	out := []api.Sig{{}, {Id: id}, {Sig: sig}}
	for _, other := range []string{
		id[:63], id[1:], id + "0", "0" + id, id[:62], id + "00", id + id, bytes(id), strings.ToUpper(id), "A" + id[1:], id[:63] + "F", id[:31] + "B" + id[32:], "g" + id[1:], id[:63] + "g", id[:63] + "`", id[:63] + ":", "/" + id[1:],
		id[:63] + " ", " " + id[1:], id[:63] + "\n", id + "\n", id[:62] + "é", "0x" + id[2:], id[:63] + "\x00", id[:63] + `"`, `\` + id[1:], strings.Repeat("é", 32), strings.Repeat(id, 100),
	} {
		out = append(out, api.Sig{Id: other, Sig: sig})
	}
	for _, other := range []string{sig[:63], sig[1:], sig + "\x00", "\x00" + sig, sig + sig, sig[:32], hexed(sig), strings.Repeat(sig, 100)} {
		out = append(out, api.Sig{Id: id, Sig: other})
	}
	return out
}

// P15.1: a signature that may not be, alone and at each place among others, of metadata that may be, or may not.
func TestSigsThatMayNotBe(t *testing.T) {
	t.Parallel()
	bad := with(root(), func(m *api.Meta) { m.Version = 0 })
	for i, s := range sigsThatMayNotBe() {
		for _, n := range []int{1, 2, 16} {
			for at := range n {
				row := put(sigRow(n), at, s)
				what := fmt.Sprintf("signature %d at %d of %d", i, at, n)
				for _, m := range []api.Meta{timestamp(), bare()[3]} {
					prints(t, what, m, true, row...)
					if _, _, e := reads(t, what, textOf(m, row...)); e == api.OK {
						t.Errorf("%s is read", what)
					}
				}
				prints(t, "both may not be", bad, false, row...)
				reads(t, "both may not be", textOf(bad, row...))
			}
		}
	}
	prints(t, "metadata that may not be", bad, false)
	prints(t, "metadata that may not be", bad, false, sigRow(16)...)
	prints(t, "metadata that may not be, too many signatures", bad, false, sigRow(17)...)
}

// P15.1: any 64 bytes are a signature, and any 64 digits an Id.
func TestAnySig(t *testing.T) {
	t.Parallel()
	for _, m := range small() {
		for _, id := range []string{strings.Repeat("0", 64), strings.Repeat("f", 64), strings.Repeat("9a", 32), firstId} {
			for _, sig := range []string{strings.Repeat("\x00", 64), strings.Repeat("\xff", 64), strings.Repeat(`"`, 64), strings.Repeat("é", 32), summed("a") + summed("b")} {
				s := api.Sig{Id: id, Sig: sig}
				prints(t, "any signature", m, true, s, s)
				readsAs(t, "any signature", textOf(m, s, s), m, s, s)
			}
		}
	}
}

// P15.1: the greatest text has no more bytes than may be read, and it is read.
func TestGreatestText(t *testing.T) {
	t.Parallel()
	for _, m := range full() {
		s, e := meta.Print(m, sigRow(16)...)
		if e != api.OK || len(s) > 65536 || s != textOf(m, sigRow(16)...) {
			t.Errorf("Print of the greatest one of Kind %d: %d bytes, %d", m.Kind, len(s), e)
		}
		if m.Kind == api.MTargets && len(s) < 60000 {
			t.Errorf("the greatest text has %d bytes", len(s))
		}
		readsAs(t, "the greatest one", s, m, sigRow(16)...)
	}
}
