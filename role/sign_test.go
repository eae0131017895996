package role_test

import (
	"fmt"
	"slices"
	"strings"
	"testing"

	"imprimatur/api"
	"imprimatur/ed"
	"imprimatur/role"
)

// signs holds what Sign answers.
func signs(t *testing.T, what, text string, want []api.Sig, seeds ...string) {
	t.Helper()
	if got, e := role.Sign(text, seeds...); !slices.Equal(got, want) || e != api.OK {
		t.Errorf("%s: Sign of %d bytes by %d seeds: %q, %d, not %q", what, len(text), len(seeds), got, e, want)
	}
}

// signsNot holds that there is an error, and no signatures beside it.
func signsNot(t *testing.T, what, text string, seeds ...string) {
	t.Helper()
	if got, e := role.Sign(text, seeds...); len(got) != 0 || e != api.ErrArg {
		t.Errorf("%s: Sign of %d bytes by %d seeds: %d signatures, %d, not ErrArg", what, len(text), len(seeds), len(got), e)
	}
}

func seedsOf(of ...person) []string {
	var out []string
	for _, p := range of {
		out = append(out, p.seed)
	}
	return out
}

// P14.1: known signatures, by known sums.
func TestKnownSigs(t *testing.T) {
	t.Parallel()
	for _, k := range known() {
		signs(t, "a known one", unhex(k.text), []api.Sig{{Id: k.id, Sig: unhex(k.sig)}}, unhex(k.seed))
		var seeds []string
		var ids []string
		for _, other := range known() {
			seeds, ids = append(seeds, unhex(other.seed)), append(ids, other.id)
		}
		got, e := role.Sign(unhex(k.text), seeds...)
		if len(got) != len(ids) || e != api.OK {
			t.Fatalf("%d signatures, %d", len(got), e)
		}
		for i, s := range got {
			if s.Id != ids[i] || (s.Sig == unhex(k.sig)) != (ids[i] == k.id) {
				t.Errorf("signature %d is %q", i, s)
			}
		}
	}
}

// P14.1: no seeds, one, several, in whatever order, and one twice.
func TestSign(t *testing.T) {
	t.Parallel()
	all := people(40)
	for _, text := range []string{"", "a", mixed(200), strings.Repeat("\x00", 3000)} {
		signs(t, "no seeds", text, nil)
		signs(t, "no seeds", text, nil, []string{}...)
		for _, n := range []int{1, 2, 3, 16, 17, 40} {
			row := all[:n]
			signs(t, "so many", text, by(text, row...), seedsOf(row...)...)
			back := slices.Clone(row)
			slices.Reverse(back)
			signs(t, "the last one first", text, by(text, back...), seedsOf(back...)...)
		}
		for _, row := range permuted(all[:3]) {
			signs(t, "an order", text, by(text, row...), seedsOf(row...)...)
		}
		for _, at := range [][]int{{0, 0}, {0, 0, 1}, {0, 1, 0}, {1, 0, 0}, {2, 0, 2, 1, 2}, {0, 0, 0, 0}} {
			var row []person
			for _, i := range at {
				row = append(row, all[i])
			}
			signs(t, "one twice", text, by(text, row...), seedsOf(row...)...)
		}
	}
	for _, seed := range []string{strings.Repeat("\x00", 32), strings.Repeat("\xff", 32), mixed(32), strings.Repeat("é", 16)} {
		p := person{seed, keyOf(seed), idOf(keyOf(seed))}
		signs(t, "any seed", "a", by("a", p), seed)
	}
}

// P14.1: texts of all lengths, as ed signs them.
func TestSignOfTexts(t *testing.T) {
	t.Parallel()
	p, q := people(2)[0], people(2)[1]
	list := []string{mixed(65535), mixed(65536), mixed(65537), mixed(1 << 20), "é\xff"}
	for n := range 140 {
		list = append(list, mixed(n))
	}
	for _, text := range list {
		signs(t, "a text", text, by(text, q, p), q.seed, p.seed)
		sigs, _ := role.Sign(text, p.seed)
		if want, _ := ed.Sign(p.seed, text); len(sigs) != 1 || sigs[0].Sig != want || ed.Verify(p.public, text, sigs[0].Sig) != api.OK {
			t.Errorf("what is signed of %d bytes: %q, not %q", len(text), sigs, want)
		}
	}
}

// P14.1: a seed of another length than 32 bytes, at each place.
func TestSignBySeedsThatMayNotBe(t *testing.T) {
	t.Parallel()
	all := seedsOf(people(16)...)
	seed := all[0]
	for _, text := range []string{"", "a", mixed(2000)} {
		for n := range 130 {
			if n != 32 {
				signsNot(t, fmt.Sprintf("%d bytes", n), text, mixed(n))
			}
		}
		for _, bad := range []string{"", seed[:31], seed + "\x00", "\x00" + seed, seed + seed, seed[:1], keyOf(seed) + "\n", idOf(keyOf(seed)), strings.Repeat(seed, 1<<12)} {
			for _, n := range []int{1, 2, 3, 16} {
				for at := range n {
					signsNot(t, "one that may not be", text, put(all[:n], at, bad)...)
				}
			}
			signsNot(t, "none that may be", text, bad, bad)
		}
	}
}
