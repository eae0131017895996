package role_test

import (
	"crypto/ed25519"
	"crypto/sha256"
	"crypto/sha512"
	"encoding/hex"
	"fmt"
	"math/big"
	"regexp"
	"slices"
	"strings"
	"testing"

	"imprimatur/api"
	"imprimatur/role"
)

const (
	most     = 16 // keys, Ids, signatures
	least    = -1 << 63
	greatest = 1<<63 - 1
)

// person is one who signs: a seed, its key, and that key's sum.
type person struct{ seed, public, id string }

// people are so many, no two of them alike, in the order of their sums.
func people(n int) []person {
	out := make([]person, n)
	for i := range out {
		seed := summed(fmt.Sprint("person ", i))
		out[i] = person{seed, keyOf(seed), idOf(keyOf(seed))}
	}
	slices.SortFunc(out, func(a, b person) int { return strings.Compare(a.id, b.id) })
	return out
}

func idsOf(of ...person) []string {
	var out []string
	for _, p := range of {
		out = append(out, p.id)
	}
	return out
}

func keysOf(of ...person) []api.Key {
	var out []api.Key
	for _, p := range of {
		out = append(out, api.Key{Id: p.id, Public: p.public})
	}
	return out
}

func roleOf(need int, of ...person) api.Role {
	return api.Role{Ids: idsOf(of...), Need: need}
}

// by are the library's signatures of a text.
func by(text string, of ...person) []api.Sig {
	var out []api.Sig
	for _, p := range of {
		out = append(out, api.Sig{Id: p.id, Sig: signed(p.seed, text)})
	}
	return out
}

func summed(s string) string {
	sum := sha256.Sum256([]byte(s))
	return string(sum[:])
}

func idOf(public string) string {
	return hex.EncodeToString([]byte(summed(public)))
}

// libraryKey is the library's of a seed: the seed, and the key behind it.
func libraryKey(seed string) ed25519.PrivateKey {
	return ed25519.NewKeyFromSeed([]byte(seed))
}

func keyOf(seed string) string {
	return string(libraryKey(seed)[32:])
}

func signed(seed, text string) string {
	return string(ed25519.Sign(libraryKey(seed), []byte(text)))
}

func isRight(public, text, sig string) bool {
	return len(public) == 32 && ed25519.Verify([]byte(public), []byte(text), []byte(sig))
}

// order is L, the base point's.
var order, _ = new(big.Int).SetString("7237005577332262213973186563042994240857116359379907606001950938285454250989", 10)

// reversed turns the highest byte first into the lowest first, and back.
func reversed(s string) []byte {
	b := []byte(s)
	slices.Reverse(b)
	return b
}

func numberOf(s string) *big.Int {
	return new(big.Int).SetBytes(reversed(s))
}

// secret is a seed's number.
func secret(seed string) *big.Int {
	all := sha512.Sum512([]byte(seed))
	all[0] &= 248
	all[31] = all[31]&63 | 64
	return numberOf(string(all[:32]))
}

// otherSigned is one more right signature of a text by a seed, whose first half is another seed's key, not what the seed itself would take.
func otherSigned(seed, text, other string) string {
	first := keyOf(other)
	all := sha512.Sum512([]byte(first + keyOf(seed) + text))
	s := new(big.Int).Mul(numberOf(string(all[:])), secret(seed))
	s.Mod(s.Add(s, secret(other)), order)
	return first + string(reversed(string(s.FillBytes(make([]byte, 32)))))
}

// tooGreat is a signature whose number is not below L, that would be right otherwise.
func tooGreat(sig string) string {
	n := numberOf(sig[32:])
	return sig[:32] + string(reversed(string(n.Add(n, order).FillBytes(make([]byte, 32)))))
}

var sums = regexp.MustCompile(`\A[0-9a-f]{64}\z`)

// roleMayBe is what the chapter says of a role.
func roleMayBe(r api.Role) bool {
	rising := slices.IsSorted(r.Ids) && len(slices.Compact(slices.Clone(r.Ids))) == len(r.Ids)
	wrong := slices.ContainsFunc(r.Ids, func(id string) bool { return !sums.MatchString(id) })
	return rising && !wrong && 1 <= len(r.Ids) && len(r.Ids) <= most && 1 <= r.Need && r.Need <= len(r.Ids)
}

// keysMayBe is what the chapter says of a row of keys.
func keysMayBe(l []api.Key) bool {
	if len(l) > most {
		return false
	}
	for i, k := range l {
		if len(k.Public) != 32 || k.Id != idOf(k.Public) || i > 0 && l[i-1].Id >= k.Id {
			return false
		}
	}
	return true
}

// counted is what the chapter says of Count, with a look through all keys and all signatures for each Id.
func counted(r api.Role, keys []api.Key, text string, sigs []api.Sig) ([]string, api.Errno) {
	if !roleMayBe(r) || !keysMayBe(keys) || len(sigs) > most {
		return nil, api.ErrArg
	}
	var who []string
	for _, id := range r.Ids {
		for _, k := range keys {
			var of []string
			for _, s := range sigs {
				if s.Id == id {
					of = append(of, s.Sig)
				}
			}
			if k.Id == id && len(of) > 0 && isRight(k.Public, text, of[0]) {
				who = append(who, id)
			}
		}
	}
	return who, api.OK
}

// checked is what the chapter says of Check.
func checked(r api.Role, keys []api.Key, text string, sigs []api.Sig) api.Errno {
	who, e := counted(r, keys, text, sigs)
	if e != api.OK {
		return e
	}
	if len(who) < r.Need {
		return api.ErrFew
	}
	return api.OK
}

// counts holds that these signed, and what Check tells of each Need that is just reached, one less or one more, the least or the greatest one.
func counts(t *testing.T, what string, r api.Role, keys []api.Key, text string, sigs []api.Sig, want ...string) {
	t.Helper()
	who, e := role.Count(r, keys, text, sigs)
	if !slices.Equal(who, want) || e != api.OK {
		t.Errorf("%s: Count %.8q, %d, not %.8q", what, who, e, want)
	}
	for _, need := range slices.Compact([]int{1, len(want) - 1, len(want), len(want) + 1, len(r.Ids)}) {
		asked := api.Role{Ids: r.Ids, Need: need}
		if !roleMayBe(asked) {
			continue
		}
		wantErr := api.OK
		if len(want) < need {
			wantErr = api.ErrFew
		}
		if e := role.Check(asked, keys, text, sigs); e != wantErr {
			t.Errorf("%s: Check of Need %d: %d, not %d", what, need, e, wantErr)
		}
	}
}

// fails holds that both calls tell ErrArg, and no Ids beside it.
func fails(t *testing.T, what string, r api.Role, keys []api.Key, text string, sigs []api.Sig) {
	t.Helper()
	if who, e := role.Count(r, keys, text, sigs); len(who) != 0 || e != api.ErrArg {
		t.Errorf("%s: Count %.8q, %d, not ErrArg", what, who, e)
	}
	if e := role.Check(r, keys, text, sigs); e != api.ErrArg {
		t.Errorf("%s: Check %d, not ErrArg", what, e)
	}
}

// agrees holds what all calls answer of rows of any kind against the chapter's words.
func agrees(t *testing.T, what string, r api.Role, keys []api.Key, text string, sigs []api.Sig) {
	t.Helper()
	if got := role.Right(r); got != roleMayBe(r) {
		t.Errorf("%s: Right of %q, %d: %t", what, r.Ids, r.Need, got)
	}
	if got := role.Keys(keys); got != keysMayBe(keys) {
		t.Errorf("%s: Keys of %q: %t", what, keys, got)
	}
	want, wantErr := counted(r, keys, text, sigs)
	if who, e := role.Count(r, keys, text, sigs); !slices.Equal(who, want) || e != wantErr {
		t.Errorf("%s: Count %.8q, %d, not %.8q, %d", what, who, e, want, wantErr)
	}
	if e := role.Check(r, keys, text, sigs); e != checked(r, keys, text, sigs) {
		t.Errorf("%s: Check %d, not %d", what, e, checked(r, keys, text, sigs))
	}
}

// isRightRole and areRightKeys hold what may be.
func isRightRole(t *testing.T, what string, r api.Role, want bool) {
	t.Helper()
	if got := role.Right(r); got != want {
		t.Errorf("%s: Right of %d Ids, Need %d: %t; %q", what, len(r.Ids), r.Need, got, r.Ids)
	}
}

func areRightKeys(t *testing.T, what string, l []api.Key, want bool) {
	t.Helper()
	if got := role.Keys(l); got != want {
		t.Errorf("%s: Keys of %d: %t; %q", what, len(l), got, l)
	}
}

// permuted are all orders of a row.
func permuted[T any](row []T) [][]T {
	if len(row) == 0 {
		return [][]T{nil}
	}
	var out [][]T
	for i, first := range row {
		for _, rest := range permuted(slices.Delete(slices.Clone(row), i, i+1)) {
			out = append(out, append([]T{first}, rest...))
		}
	}
	return out
}

// chosen are those of a row for which the number has a bit.
func chosen[T any](row []T, bits int) []T {
	var out []T
	for i, one := range row {
		if bits>>i&1 == 1 {
			out = append(out, one)
		}
	}
	return out
}

// put is the row with one of its elements another one.
func put[T any](row []T, at int, one T) []T {
	out := slices.Clone(row)
	out[at] = one
	return out
}

// turned is s with one bit another one.
func turned(s string, bit int) string {
	b := []byte(s)
	b[bit/8] ^= 1 << (bit % 8)
	return string(b)
}

// mixed are so many bytes, of all kinds.
func mixed(n int) string {
	b := make([]byte, n)
	for i := range b {
		b[i] = byte(i*i/7 + 31*i + n)
	}
	return string(b)
}

func unhex(s string) string {
	b, err := hex.DecodeString(s)
	if err != nil {
		panic(err)
	}
	return string(b)
}

// The words of this file lead where the chapters say.
func TestOracle(t *testing.T) {
	t.Parallel()
	all := people(18)
	if !slices.IsSorted(idsOf(all...)) || len(slices.Compact(idsOf(all...))) != 18 || !order.ProbablyPrime(20) {
		t.Errorf("people: %q", idsOf(all...))
	}
	p, q := all[0], all[1]
	sig, other := signed(p.seed, "a"), otherSigned(p.seed, "a", q.seed)
	if sig == other || !isRight(p.public, "a", sig) || !isRight(p.public, "a", other) || isRight(p.public, "b", other) || isRight(q.public, "a", other) {
		t.Errorf("signatures %x, %x", sig, other)
	}
	if great := tooGreat(sig); great == sig || len(great) != 64 || isRight(p.public, "a", great) {
		t.Errorf("a signature too great: %x", great)
	}
	r, keys := roleOf(2, all[:3]...), keysOf(all[:3]...)
	if !roleMayBe(r) || !keysMayBe(keys) || roleMayBe(api.Role{}) || roleMayBe(roleOf(1, q, p)) || roleMayBe(roleOf(1, p, p)) || keysMayBe(keysOf(q, p)) || keysMayBe(keysOf(p, p)) {
		t.Error("which rows may be")
	}
	if who, e := counted(r, keys, "a", by("a", q, p)); !slices.Equal(who, idsOf(p, q)) || e != api.OK {
		t.Errorf("counted %.8q, %d", who, e)
	}
	if len(permuted(all[:4])) != 24 || len(chosen(all, 1<<17|5)) != 3 {
		t.Error("orders or choices")
	}
}
