package role_test

import (
	"fmt"
	"slices"
	"strings"
	"testing"

	"imprimatur/api"
	"imprimatur/role"
)

// The chapter's example, P14.2, P14.3.
func TestExample(t *testing.T) {
	t.Parallel()
	all := people(2)
	r, keys := roleOf(2, all...), keysOf(all...)
	sigs, _ := role.Sign("a text", all[0].seed, all[0].seed)
	if e := role.Check(r, keys, "a text", sigs); e != api.ErrFew || len(sigs) != 2 {
		t.Errorf("Need 2, %d signatures by one key: %d, not ErrFew", len(sigs), e)
	}
	sigs, _ = role.Sign("a text", all[0].seed, all[1].seed)
	if e := role.Check(r, keys, "a text", sigs); e != api.OK {
		t.Errorf("Need 2, signed by both: %d", e)
	}
}

// P14.2: known signatures of known keys.
func TestKnownCount(t *testing.T) {
	t.Parallel()
	var r api.Role
	var keys []api.Key
	var sigs []api.Sig
	for _, k := range known() {
		r.Ids = append(r.Ids, k.id)
		keys = append(keys, api.Key{Id: k.id, Public: unhex(k.public)})
		sigs = append(sigs, api.Sig{Id: k.id, Sig: unhex(k.sig)})
	}
	r.Need = 1
	for _, k := range known() {
		counts(t, "a known text", r, keys, unhex(k.text), sigs, k.id)
	}
	counts(t, "another text", r, keys, "another", sigs)
}

// P14.2: so many of a role, of whom so many signed, Need just reached and one too few.
func TestHowManySigned(t *testing.T) {
	t.Parallel()
	all := people(16)
	for n := 1; n <= 16; n++ {
		r, keys := roleOf(1, all[:n]...), keysOf(all[:n]...)
		sigs := by("text", all[:n]...)
		if n > 4 && n < 15 {
			counts(t, "all", api.Role{Ids: r.Ids[:n], Need: n}, keys, "text", sigs, r.Ids...)
			continue
		}
		for signed := range n + 1 {
			counts(t, "the first ones", r, keys, "text", sigs[:signed], r.Ids[:signed]...)
			counts(t, "the last ones", r, keys, "text", sigs[n-signed:], r.Ids[n-signed:]...)
		}
	}
	r, keys := roleOf(1, all...), keysOf(all...)
	counts(t, "no one", r, keys, "text", nil)
	counts(t, "no one", r, keys, "text", []api.Sig{})
	counts(t, "no keys", r, nil, "text", by("text", all...))
	counts(t, "no keys", r, []api.Key{}, "text", by("text", all...))
	counts(t, "no keys, no one", r, nil, "", nil)
	for i, p := range all {
		counts(t, "one of one", roleOf(1, p), keysOf(p), "text", by("text", p), p.id)
		counts(t, "one of many", r, keys, "text", by("text", p), p.id)
		counts(t, "one of many keys", roleOf(1, p), keys, "text", by("text", all...), p.id)
		counts(t, "one that has a key", r, keys[i:i+1], "text", by("text", all...), p.id)
		counts(t, "all but one", r, keys, "text", slices.Delete(by("text", all...), i, i+1), idsOf(slices.Delete(slices.Clone(all), i, i+1)...)...)
	}
}

// P14.2: all choices of a role's Ids, of keys and of signatures: who is among all three.
func TestAllChoices(t *testing.T) {
	t.Parallel()
	all := people(4)
	for ids := 1; ids < 16; ids++ {
		for keys := range 16 {
			for sigs := range 16 {
				r := roleOf(1, chosen(all, ids)...)
				who, e := role.Count(r, keysOf(chosen(all, keys)...), "text", by("text", chosen(all, sigs)...))
				if want := idsOf(chosen(all, ids&keys&sigs)...); !slices.Equal(who, want) || e != api.OK {
					t.Errorf("Ids %04b, keys %04b, signatures %04b: %.8q, %d, not %.8q", ids, keys, sigs, who, e, want)
				}
			}
		}
	}
}

// P14.2: the answer's order is the role's, whatever the signatures' is.
func TestOrderOfTheAnswer(t *testing.T) {
	t.Parallel()
	all := people(6)
	r, keys := roleOf(3, all[1:5]...), keysOf(all...)
	for _, row := range permuted(all[:5]) {
		who, e := role.Count(r, keys, "text", by("text", row...))
		if !slices.Equal(who, r.Ids) || e != api.OK {
			t.Errorf("Count of an order: %.8q, %d", who, e)
		}
	}
	many := people(16)
	back := by("text", many...)
	slices.Reverse(back)
	counts(t, "the last one first", roleOf(1, many...), keysOf(many...), "text", back, idsOf(many...)...)
	counts(t, "the last ones first", roleOf(1, many[3:9]...), keysOf(many[5:]...), "text", back, idsOf(many[5:9]...)...)
}

// P14.2: at most 16 signatures, whatever they are.
func TestHowManySigs(t *testing.T) {
	t.Parallel()
	all := people(20)
	r, keys := roleOf(2, all[:3]...), keysOf(all[:16]...)
	good := by("text", all[:3]...)
	for _, fill := range [][]api.Sig{by("text", all[3]), by("text", all[0]), by("other", all[1]), by("text", all[17]), {{}}, {{Id: all[2].id}}, {{Sig: "x"}}} {
		for _, n := range []int{15, 16, 17, 18, 33, 1000} {
			row := slices.Concat(good, slices.Repeat(fill, n-3))
			if n <= most {
				counts(t, fmt.Sprint(n, " signatures"), r, keys, "text", row, r.Ids...)
			} else {
				fails(t, fmt.Sprint(n, " signatures"), r, keys, "text", row)
			}
		}
	}
	fails(t, "seventeen that are nothing", r, keys, "text", make([]api.Sig, 17))
	fails(t, "seventeen of seventeen", r, keys, "text", by("text", all[:17]...))
	counts(t, "sixteen that are nothing", r, keys, "text", make([]api.Sig, 16))
}

// P14.2: a role, keys and signatures that may not be, each alone and all together, with whatever signed.
func TestErrors(t *testing.T) {
	t.Parallel()
	all := people(20)
	p := all[0]
	good := roleOf(2, all[:3]...)
	roles := []api.Role{good, roleOf(1, p), roleOf(16, all[:16]...),
		{}, {Need: 1}, {Ids: good.Ids}, {Ids: good.Ids, Need: -1}, {Ids: good.Ids, Need: 4}, {Ids: good.Ids, Need: least}, {Ids: good.Ids, Need: greatest},
		roleOf(1, all[:17]...), roleOf(1, all[1], p), roleOf(1, p, p), {Ids: []string{p.id[:63]}, Need: 1}, {Ids: []string{p.id + "0"}, Need: 1}, {Ids: []string{strings.ToUpper(p.id)}, Need: 1}, {Ids: []string{""}, Need: 1},
	}
	rows := [][]api.Key{keysOf(all[:3]...), nil, keysOf(all[:16]...),
		keysOf(all[:17]...), keysOf(all[1], p), keysOf(p, p), {{}}, {{Id: p.id}}, {{Id: p.id, Public: p.public + "\x00"}}, {{Id: idOf(p.public[:31]), Public: p.public[:31]}}, {{Id: strings.ToUpper(p.id), Public: p.public}}, {{Id: all[1].id, Public: p.public}},
	}
	sigs := [][]api.Sig{by("text", all[:3]...), nil, by("text", p), by("text", all[:16]...),
		by("text", all[:17]...), slices.Repeat(by("text", p), 17), make([]api.Sig, 40),
	}
	for i, r := range roles {
		for j, keys := range rows {
			for k, row := range sigs {
				what := fmt.Sprintf("role %d, keys %d, signatures %d", i, j, k)
				if i < 3 && j < 3 && k < 4 {
					agrees(t, what, r, keys, "text", row)
				} else {
					fails(t, what, r, keys, "text", row)
				}
			}
		}
	}
}

// P14.2: keys that the role has not and Ids that are no key's count not, and signatures that neither has.
func TestOthers(t *testing.T) {
	t.Parallel()
	all := people(16)
	ours, others := all[:2], all[2:]
	r := roleOf(1, ours...)
	counts(t, "keys of others", r, keysOf(others...), "text", by("text", all...))
	counts(t, "signatures of others", r, keysOf(all...), "text", by("text", others...))
	counts(t, "one of ours, keys of others", r, keysOf(all[1:]...), "text", by("text", all...), ours[1].id)
	counts(t, "ours behind others", r, keysOf(all...), "text", slices.Concat(by("text", others...), by("text", ours[0])), ours[0].id)
	for _, id := range wrongIds(ours[0], ours[1]) {
		sigs := []api.Sig{{Id: id, Sig: signed(ours[0].seed, "text")}}
		counts(t, "a signature of another Id", r, keysOf(all...), "text", sigs)
		counts(t, "a signature of another Id, and ours behind it", r, keysOf(ours[0]), "text", append(sigs, by("text", ours...)...), ours[0].id)
	}
	unknown := idOf("no one")
	row := append(idsOf(ours...), unknown)
	slices.Sort(row)
	counts(t, "an Id of no one", api.Role{Ids: row, Need: 1}, keysOf(all...), "text", append(by("text", ours...), api.Sig{Id: unknown, Sig: signed(ours[0].seed, "text")}), idsOf(ours...)...)
}

// notRight are signatures that are no right ones of a text by a key.
func notRight(of, other person, text string) map[string]string {
	sig := signed(of.seed, text)
	return map[string]string{
		"none": "", "63 bytes": sig[:63], "65 bytes": sig + "\x00", "65 bytes, one ahead": "\x00" + sig, "half": sig[:32], "the last half": sig[32:], "twice": sig + sig, "digits": fmt.Sprintf("%x", sig),
		"zeros": strings.Repeat("\x00", 64), "64 of 255": strings.Repeat("\xff", 64), "the halves changed": sig[32:] + sig[:32], "a number too great": tooGreat(sig),
		"of another text": signed(of.seed, text+"\x00"), "of no text": signed(of.seed, ""), "of less text": signed(of.seed, text[1:]), "of its beginning": signed(of.seed, text[:len(text)-1]), "of its sum": signed(of.seed, summed(text)), "of its digits": signed(of.seed, fmt.Sprintf("%x", text)),
		"by another key": signed(other.seed, text), "by another key, of another text": signed(other.seed, "x"), "the other key's": otherSigned(other.seed, text, of.seed),
		"half another one's": sig[:32] + signed(other.seed, text)[32:], "half of another text's": signed(of.seed, "x")[:32] + sig[32:],
	}
}

// P14.2: a signature that is not right counts not.
func TestSigsThatAreNotRight(t *testing.T) {
	t.Parallel()
	all := people(3)
	r, keys := roleOf(1, all...), keysOf(all...)
	for i, p := range all {
		good := by("a text", all...)
		rest := slices.Delete(idsOf(all...), i, i+1)
		for what, sig := range notRight(p, all[(i+1)%3], "a text") {
			counts(t, what, r, keys, "a text", put(good, i, api.Sig{Id: p.id, Sig: sig}), rest...)
			counts(t, what+", alone", roleOf(1, p), keysOf(p), "a text", []api.Sig{{Id: p.id, Sig: sig}})
		}
		for bit := range 512 {
			if i == 1 || bit%8 == bit/8%8 {
				sigs := []api.Sig{{Id: p.id, Sig: turned(good[i].Sig, bit)}}
				if who, e := role.Count(r, keys, "a text", sigs); len(who) != 0 || e != api.OK {
					t.Errorf("a signature with bit %d another one: %.8q, %d", bit, who, e)
				}
			}
		}
		counts(t, "one more right one", r, keys, "a text", put(good, i, api.Sig{Id: p.id, Sig: otherSigned(p.seed, "a text", "another seed, of thirty-two bytes"[:32])}), idsOf(all...)...)
		counts(t, "of another text", r, keys, "a texu", good)
		counts(t, "of no text", r, keys, "", good)
	}
}

// P14.2: texts of all lengths.
func TestTexts(t *testing.T) {
	t.Parallel()
	all := people(2)
	for _, text := range []string{"", "\x00", "a", "é", mixed(63), mixed(64), mixed(111), mixed(112), mixed(128), mixed(65536), mixed(65537), mixed(1 << 20)} {
		counts(t, "a text", roleOf(2, all...), keysOf(all...), text, by(text, all...), idsOf(all...)...)
		counts(t, "one byte more", roleOf(2, all...), keysOf(all...), text+"\x00", by(text, all...))
		counts(t, "one byte less", roleOf(2, all...), keysOf(all...), text, by(text+"\x00", all...))
	}
}

// P14.2: the first signature of an Id is the one that tells, wherever it stands.
func TestFirstSigOfAnId(t *testing.T) {
	t.Parallel()
	all := people(3)
	p, q := all[1], all[0]
	r, keys := roleOf(1, all...), keysOf(all...)
	good, others := by("text", p)[0], by("text", all[0], all[2])
	for what, sig := range notRight(p, q, "text") {
		bad := api.Sig{Id: p.id, Sig: sig}
		counts(t, what+", then a right one", r, keys, "text", []api.Sig{bad, good})
		counts(t, what+", behind a right one", r, keys, "text", []api.Sig{good, bad}, p.id)
		counts(t, what+", between others", r, keys, "text", []api.Sig{others[1], bad, others[0], good, good}, idsOf(all[0], all[2])...)
		counts(t, what+", behind others", r, keys, "text", []api.Sig{others[1], good, others[0], bad, bad}, idsOf(all...)...)
		counts(t, what+", ahead of fourteen", r, keys, "text", append([]api.Sig{bad}, slices.Repeat([]api.Sig{good}, 15)...))
		counts(t, what+", behind fifteen", r, keys, "text", append(slices.Repeat([]api.Sig{good}, 15), bad), p.id)
	}
	counts(t, "the first ones wrong", r, keys, "text", slices.Concat(by("x", all...), by("text", all...)))
	counts(t, "the last ones wrong", r, keys, "text", slices.Concat(by("text", all...), by("x", all...)), idsOf(all...)...)
}

// P14.2: a key that is no point's may be in a row, and nothing by it is right; by a point of small order there is a right one of every text.
func TestKeysThatAreNoOnes(t *testing.T) {
	t.Parallel()
	zeros := strings.Repeat("\x00", 31)
	none := []string{"\x02" + zeros, strings.Repeat("\xff", 32), "\xee" + strings.Repeat("\xff", 30) + "\x7f", "\x01" + zeros[1:] + "\x80"}
	p := people(1)[0]
	for _, public := range none {
		id := idOf(public)
		r, keys := api.Role{Ids: []string{id}, Need: 1}, []api.Key{{Id: id, Public: public}}
		for what, sig := range map[string]string{"another's": signed(p.seed, "text"), "zeros": zeros + zeros + "\x00\x00", "of no points": "\x01" + zeros + zeros + "\x00"} {
			counts(t, what, r, keys, "text", []api.Sig{{Id: id, Sig: sig}})
		}
		row, both := sorted(keysOf(p), keys[0]), append(idsOf(p), id)
		slices.Sort(both)
		counts(t, "beside one that is a point's", api.Role{Ids: both, Need: 2}, row, "text", append([]api.Sig{{Id: id, Sig: "x"}}, by("text", p)...), p.id)
	}
	public := "\x01" + zeros
	id := idOf(public)
	counts(t, "of small order", api.Role{Ids: []string{id}, Need: 1}, []api.Key{{Id: id, Public: public}}, "text", []api.Sig{{Id: id, Sig: public + zeros + "\x00"}}, id)
}
