package role_test

import (
	"fmt"
	"math/rand"
	"slices"
	"strings"
	"testing"

	"imprimatur/api"
	"imprimatur/role"
)

// P14.3: a key counts once, however many signatures of it there are, be they the same or not.
func TestAKeyCountsOnce(t *testing.T) {
	t.Parallel()
	all := people(16)
	for _, n := range []int{1, 2, 3, 16} {
		r, keys := roleOf(n, all[:n]...), keysOf(all[:n]...)
		for i, p := range all[:n] {
			same := by("text", p)[0]
			other := api.Sig{Id: p.id, Sig: otherSigned(p.seed, "text", all[(i+1)%16].seed)}
			third := api.Sig{Id: p.id, Sig: otherSigned(p.seed, "text", all[(i+2)%16].seed)}
			for often := 1; often <= 5; often++ {
				counts(t, "the same ones", r, keys, "text", slices.Repeat([]api.Sig{same}, often*3), p.id)
				counts(t, "other ones", r, keys, "text", slices.Repeat([]api.Sig{other, same, third}, often), p.id)
			}
			counts(t, "sixteen of one", r, keys, "text", slices.Repeat([]api.Sig{same, other}, 8), p.id)
			if q := all[(i+1)%n]; n > 1 {
				both := idsOf(p, q)
				slices.Sort(both)
				counts(t, "many of two", r, keys, "text", slices.Repeat(append(by("text", q), third, same), 5), both...)
			}
		}
	}
}

// P14.3: one that the role has not counts not, be it a key of the row or not; so as many of the role must have signed as Need says.
func TestOneThatTheRoleHasNot(t *testing.T) {
	t.Parallel()
	all := people(16)
	for n := 1; n <= 5; n++ {
		for signed := range n {
			sigs := slices.Concat(by("text", all[5:]...), by("text", all[:signed]...))
			for _, keys := range [][]api.Key{keysOf(all...), keysOf(all[:5]...)} {
				counts(t, "others", roleOf(n, all[:n]...), keys, "text", sigs, idsOf(all[:signed]...)...)
			}
			if e := role.Check(roleOf(n, all[:n]...), keysOf(all...), "text", sigs); e != api.ErrFew {
				t.Errorf("%d of %d, and %d others: %d, not ErrFew", signed, n, 16-5, e)
			}
		}
	}
}

// P14.1 to P14.3: what Sign signs by any seeds, is of just their keys.
func TestSignedIsCounted(t *testing.T) {
	t.Parallel()
	all := people(6)
	for bits := range 64 {
		row := chosen(all, bits)
		sigs, e := role.Sign(fmt.Sprint(bits), seedsOf(row...)...)
		if e != api.OK {
			t.Errorf("Sign by %06b: %d", bits, e)
		}
		counts(t, fmt.Sprintf("by %06b", bits), roleOf(1, all...), keysOf(all...), fmt.Sprint(bits), sigs, idsOf(row...)...)
		counts(t, fmt.Sprintf("by %06b, another text", bits), roleOf(1, all...), keysOf(all...), "x", sigs)
	}
}

// roomy is a row with room behind its end, in which something stands.
func roomy[T any](row []T, room int, behind T) []T {
	return append(slices.Clone(row), slices.Repeat([]T{behind}, room)...)[:len(row)]
}

// R4: no call changes a row that it was handed, nor what stands behind it; and what is answered is new memory.
func TestRowsStay(t *testing.T) {
	t.Parallel()
	all := people(5)
	for _, room := range []int{0, 1, 9} {
		for _, order := range permuted(all[:3]) {
			ids, keys, sigs := roomy(idsOf(order...), room, "behind"), roomy(keysOf(order...), room, api.Key{Id: "behind"}), roomy(by("text", order...), room, api.Sig{Id: "behind"})
			seeds := roomy(seedsOf(order...), room, all[4].seed)
			wasIds, wasKeys, wasSigs, wasSeeds := slices.Clone(ids[:cap(ids)]), slices.Clone(keys[:cap(keys)]), slices.Clone(sigs[:cap(sigs)]), slices.Clone(seeds[:cap(seeds)])
			for _, r := range []api.Role{{Ids: ids, Need: 2}, roleOf(2, all...)} {
				for _, row := range [][]api.Key{keys, keysOf(all...)} {
					role.Right(r)
					role.Keys(row)
					who, _ := role.Count(r, row, "text", sigs)
					_ = role.Check(r, row, "text", sigs)
					made, _ := role.Sign("text", seeds...)
					spoil(who, "spoilt")
					spoil(made, api.Sig{Id: "spoilt"})
				}
			}
			if !slices.Equal(ids[:cap(ids)], wasIds) || !slices.Equal(keys[:cap(keys)], wasKeys) || !slices.Equal(sigs[:cap(sigs)], wasSigs) || !slices.Equal(seeds[:cap(seeds)], wasSeeds) {
				t.Errorf("room for %d: a row is another one", room)
			}
		}
	}
}

// spoil writes over a row, and over what room is behind it.
func spoil[T any](row []T, one T) {
	row = row[:cap(row)]
	for i := range row {
		row[i] = one
	}
}

// R1: no call keeps anything.
func TestNothingIsKept(t *testing.T) {
	t.Parallel()
	all := people(4)
	round := func() string {
		sigs, e := role.Sign("text", seedsOf(all[:2]...)...)
		_, f := role.Sign("text", "no seed")
		who, g := role.Count(roleOf(2, all...), keysOf(all...), "text", sigs)
		_, h := role.Count(api.Role{}, nil, "", nil)
		return fmt.Sprintf("%q %d %d %q %d %d %t %t %s", sigs, e, f, who, g, h, role.Right(roleOf(1, all...)), role.Keys(keysOf(all...)), role.Id("a")) +
			fmt.Sprint(role.Check(roleOf(2, all...), keysOf(all...), "text", sigs), role.Check(roleOf(3, all...), keysOf(all...), "text", sigs), role.Check(roleOf(1, all...), keysOf(all...), "x", sigs))
	}
	first := round()
	for i := range all {
		others := slices.Concat(all[i:], all[:i])
		_, _ = role.Sign("x", seedsOf(others...)...)
		_, _ = role.Count(roleOf(1, others...), keysOf(others...), "x", by("x", others...))
		_ = role.Check(roleOf(1, all[i]), keysOf(all[i]), "text", by("text", all...))
		if again := round(); again != first {
			t.Errorf("first %s, then %s", first, again)
		}
	}
}

// R1: calls side by side have nothing in common.
func TestCallsSideBySide(t *testing.T) {
	t.Parallel()
	all := people(8)
	for n := range 8 {
		t.Run(fmt.Sprint(n), func(t *testing.T) {
			t.Parallel()
			text, row := fmt.Sprint(n), all[:n+1]
			for range 10 {
				signs(t, "side by side", text, by(text, row...), seedsOf(row...)...)
				who, e := role.Count(roleOf(1, all...), keysOf(all...), text, by(text, row...))
				if !slices.Equal(who, idsOf(row...)) || e != api.OK {
					t.Errorf("Count %.8q, %d", who, e)
				}
			}
		})
	}
}

// made is a row of rows that bytes tell: of each, who it is of, and what is odd about it.
func made(bytes string, all []person, text string) (r api.Role, keys []api.Key, sigs []api.Sig) {
	for i := 0; i+2 < len(bytes); i += 3 {
		p, q, odd := all[int(bytes[i+1])%len(all)], all[int(bytes[i+2])%len(all)], bytes[i]
		id, key, sig := p.id, api.Key{Id: p.id, Public: p.public}, api.Sig{Id: p.id, Sig: signed(p.seed, text)}
		switch odd >> 3 {
		case 0:
			id, key.Id, sig.Id = id[:63], id[:63], id[:63]
		case 1:
			id, key.Id, sig.Id = strings.ToUpper(id), strings.ToUpper(id), strings.ToUpper(id)
		case 2:
			id, key.Public, sig.Sig = id+"0", p.public[:31], sig.Sig[:63]
		case 3:
			key.Public, sig.Sig = q.public, signed(q.seed, text)
		case 4, 5:
			sig.Sig = signed(p.seed, text+"x")
		case 6, 7:
			sig.Sig = otherSigned(p.seed, text, q.seed)
		case 8:
			sig.Sig = turned(sig.Sig, int(bytes[i+2])*2)
		case 9:
			key = api.Key{Id: idOf(bytes[i : i+3]), Public: bytes[i : i+3]}
		}
		if odd&1 != 0 {
			r.Ids = append(r.Ids, id)
		}
		if odd&2 != 0 {
			keys = append(keys, key)
		}
		if odd&4 != 0 {
			sigs = append(sigs, sig)
		}
	}
	return r, keys, sigs
}

// inOrder is the rows with all Ids in order, each once.
func inOrder(r api.Role, keys []api.Key) (api.Role, []api.Key) {
	ids := slices.Clone(r.Ids)
	slices.Sort(ids)
	keys = slices.Clone(keys)
	slices.SortStableFunc(keys, func(a, b api.Key) int { return strings.Compare(a.Id, b.Id) })
	keys = slices.CompactFunc(keys, func(a, b api.Key) bool { return a.Id == b.Id })
	return api.Role{Ids: slices.Compact(ids), Need: r.Need}, keys
}

// P14.2, P14.3: rows of all kinds, most of which may be.
func TestAnyRows(t *testing.T) {
	t.Parallel()
	from, all := rand.New(rand.NewSource(14)), people(18)
	met := map[api.Errno]int{}
	signers := 0
	for range 1500 {
		few := all[:1+from.Intn(len(all))]
		bytes := make([]byte, 3*from.Intn(30))
		from.Read(bytes)
		for i := range bytes {
			if i%3 == 0 && from.Intn(40) > 0 {
				bytes[i] = bytes[i]&7 | byte(80+8*from.Intn(8))
			}
		}
		r, keys, sigs := made(string(bytes), few, "text")
		r.Need = 1 + from.Intn(4)
		if from.Intn(10) > 0 {
			r, keys = inOrder(r, keys)
		}
		agrees(t, fmt.Sprintf("rows of %q", bytes), r, keys, "text", sigs)
		met[checked(r, keys, "text", sigs)]++
		who, _ := counted(r, keys, "text", sigs)
		signers += len(who)
	}
	if met[api.OK] < 100 || met[api.ErrFew] < 100 || met[api.ErrArg] < 100 || signers < 1000 {
		t.Errorf("answers: %v, %d signers", met, signers)
	}
}

// P1, P14.1 to P14.3: no call panics, whatever it is handed, and each answers what the chapter says.
func FuzzAnyBytes(f *testing.F) {
	all := people(18)
	f.Add("", 0, "", "", "")
	f.Add("\xff\x00\x00\xff\x01\x00\xff\x02\x00", 2, "text", all[0].id, all[0].public)
	f.Add("\x07\x00\x00\x0f\x01\x00\x17\x02\x00\x1f\x03\x00\x27\x04\x00\x3f\x05\x00\x47\x06\x01\x4f\x07\x01", 1, "a", strings.ToUpper(all[0].id), all[0].public)
	f.Add(strings.Repeat("\xff\x03\x03", 20), -1, "", strings.Repeat("é", 32), strings.Repeat("\xff", 32))
	f.Add(strings.Repeat("\xfc\x03\x03", 16)+"\xf9\x03\x03", greatest, "x", all[1].id+"\n", all[1].public[:31])
	f.Fuzz(func(t *testing.T, bytes string, need int, text, id, public string) {
		if role.Id(public) != idOf(public) {
			t.Errorf("Id of %x: %q", public, role.Id(public))
		}
		if len(public) == 32 {
			p := person{public, keyOf(public), idOf(keyOf(public))}
			signs(t, "any seed", text, by(text, p, p), public, public)
		} else {
			signsNot(t, "any seed", text, public)
		}
		r, keys, sigs := made(bytes[:min(len(bytes), 60)], all, text)
		r.Need = need
		agrees(t, "any rows", r, keys, text, sigs)
		r, keys = inOrder(r, keys)
		agrees(t, "any rows in order", r, keys, text, sigs)
		for _, one := range []api.Key{{Id: id, Public: public}, {Id: idOf(public), Public: public}} {
			more, row := inOrder(api.Role{Ids: append(slices.Clone(r.Ids), one.Id), Need: need}, append(slices.Clone(keys), one))
			agrees(t, "any rows and any text", more, row, text, append(slices.Clone(sigs), api.Sig{Id: one.Id, Sig: public + id}))
		}
	})
}
