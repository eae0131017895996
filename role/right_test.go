package role_test

import (
	"fmt"
	"slices"
	"strings"
	"testing"

	"imprimatur/api"
)

// needs are edges of how many must sign, where there are so many.
func needs(n int) []int {
	return []int{least, least + 1, -1 << 32, -n, -2, -1, 0, 1, 2, n - 1, n, n + 1, n + 2, 2 * n, 16, 17, 1 << 32, 1<<32 + 1, 1<<32 + n, greatest}
}

// P14.1: 1 to 16 Ids, and Need of 1 to as many.
func TestHowMany(t *testing.T) {
	t.Parallel()
	all := people(40)
	for n := range 41 {
		for _, need := range needs(n) {
			isRightRole(t, "so many", roleOf(need, all[:n]...), n >= 1 && n <= most && need >= 1 && need <= n)
		}
	}
	for need := -20; need <= 20; need++ {
		isRightRole(t, "no Ids", api.Role{Need: need}, false)
		isRightRole(t, "no Ids", api.Role{Ids: []string{}, Need: need}, false)
		isRightRole(t, "sixteen Ids", roleOf(need, all[:16]...), need >= 1 && need <= 16)
		isRightRole(t, "seventeen Ids", roleOf(need, all[:17]...), false)
	}
	isRightRole(t, "many Ids", roleOf(1, people(200)...), false)
	isRightRole(t, "the known ones", api.Role{Ids: []string{known()[0].id, known()[1].id, known()[2].id, known()[3].id}, Need: 3}, true)
}

// atEachPlace holds whether an Id may be in rows of several lengths, at each place of them, among others that are less and greater.
func atEachPlace(t *testing.T, what, id string, want bool) {
	t.Helper()
	isRightRole(t, what+", alone", api.Role{Ids: []string{id}, Need: 1}, want)
	for _, n := range []int{2, 3, 16} {
		for at := range n {
			var row []string
			for i := range n {
				switch {
				case i < at:
					row = append(row, strings.Repeat("0", 62)+fmt.Sprintf("%02d", i))
				case i > at:
					row = append(row, strings.Repeat("f", 62)+fmt.Sprintf("%02d", i))
				default:
					row = append(row, id)
				}
			}
			for _, need := range []int{1, n} {
				isRightRole(t, what+" among others", api.Role{Ids: row, Need: need}, want)
			}
		}
	}
}

// P14.1: an Id has 64 digits.
func TestIdLengths(t *testing.T) {
	t.Parallel()
	for n := range 140 {
		for _, of := range []string{"1", "a", "e", "9"} {
			atEachPlace(t, fmt.Sprintf("%d of %s", n, of), strings.Repeat(of, n), n == 64)
		}
	}
	id := known()[0].id
	for _, s := range []string{id[:63], id + "0", "0" + id, id[1:], id + id, id[:32], id + "\x00", id + "\n", " " + id, id + " ", id[:63] + "\n", "", unhex(id), unhex(id + id), strings.Repeat(id, 1<<14)} {
		atEachPlace(t, "another length", s, false)
	}
	atEachPlace(t, "a known one", id, true)
}

// P14.1: of 0 to 9 and a to f: each byte at the first, a middle and the last place.
func TestIdDigits(t *testing.T) {
	t.Parallel()
	fit := 0
	for b := range 256 {
		digit := strings.IndexByte("0123456789abcdef", byte(b)) >= 0
		if digit {
			fit++
		}
		for at := range 64 {
			s := []byte("1" + known()[0].id[1:])
			s[at] = byte(b)
			isRightRole(t, fmt.Sprintf("byte %d at %d", b, at), api.Role{Ids: []string{string(s)}, Need: 1}, digit)
			if at == 0 || at == 31 || at == 63 {
				isRightRole(t, fmt.Sprintf("byte %d at %d, at the end", b, at), api.Role{Ids: []string{strings.Repeat("0", 64), string(s)}, Need: 2}, digit)
				isRightRole(t, fmt.Sprintf("byte %d at %d, at the beginning", b, at), api.Role{Ids: []string{string(s), strings.Repeat("f", 64)}, Need: 2}, digit)
			}
		}
	}
	if fit != 16 {
		t.Errorf("%d digits", fit)
	}
	id := known()[3].id
	for _, s := range []string{strings.ToUpper(id), strings.ToUpper(id[:1]) + id[1:], id[:61] + "00E", "D" + id[1:], "g" + id[1:], id[:63] + "g", id[:62] + "é", "é" + id[2:], strings.Repeat("é", 32), strings.Repeat("\uff11", 21) + "1", "0x" + id[2:], "-" + id[1:], "+" + id[1:], id[:63] + "=", id[:31] + ":" + id[32:], "_" + id[1:]} {
		if len(s) != 64 {
			t.Errorf("%q has %d bytes", s, len(s))
		}
		atEachPlace(t, "no digits", s, false)
	}
}

// P14.1: each Id is greater than the one ahead of it.
func TestIdOrder(t *testing.T) {
	t.Parallel()
	zero, id := strings.Repeat("0", 64), known()[0].id
	least, greatest := zero, strings.Repeat("f", 64)
	for _, rise := range [][]string{{least, greatest}, {id, id[:63] + "a"}, {id[:63] + "8", id}, {zero, zero[:63] + "1"}, {zero[:63] + "9", zero[:63] + "a"}, {greatest[:63] + "e", greatest}, {zero, "1" + zero[1:]}, {zero[:63] + "f", zero[:62] + "10"}, {"0" + greatest[1:], "1" + zero[1:]}, {"9" + greatest[1:], "a" + zero[1:]}} {
		less, more := rise[0], rise[1]
		isRightRole(t, "rising", api.Role{Ids: []string{less, more}, Need: 2}, true)
		isRightRole(t, "falling", api.Role{Ids: []string{more, less}, Need: 2}, false)
		isRightRole(t, "the same", api.Role{Ids: []string{less, less}, Need: 1}, false)
		isRightRole(t, "the same", api.Role{Ids: []string{more, more}, Need: 2}, false)
		isRightRole(t, "the same behind", api.Role{Ids: []string{less, more, more}, Need: 1}, false)
		isRightRole(t, "falling behind", api.Role{Ids: []string{less, more, less}, Need: 1}, false)
	}
	for n := 1; n <= 5; n++ {
		row := idsOf(people(n)...)
		for _, ids := range permuted(row) {
			isRightRole(t, "an order", api.Role{Ids: ids, Need: 1}, slices.Equal(ids, row))
		}
	}
	row := idsOf(people(16)...)
	for i := range row {
		for j := range row {
			isRightRole(t, "one put in another's place", api.Role{Ids: put(row, i, row[j]), Need: 1}, i == j)
			isRightRole(t, "two changed places", api.Role{Ids: put(put(row, i, row[j]), j, row[i]), Need: 16}, i == j)
		}
	}
}
