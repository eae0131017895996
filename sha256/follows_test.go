package sha256_test

import (
	"math/rand"
	"strings"
	"testing"

	"imprimatur/api"
	"imprimatur/sha256"
)

// inPieces is what a sum that goes on from nothing, piece by piece, ends in.
func inPieces(t *testing.T, pieces ...string) string {
	t.Helper()
	x := sha256.New()
	for i, p := range pieces {
		next, e := sha256.Write(x, p)
		if e != api.OK || !sha256.Right(next) || next.N != x.N+uint64(len(p)) {
			t.Fatalf("Write of piece %d, of %d bytes, to N %d: %x, %d", i, len(p), x.N, next, e)
		}
		x = next
	}
	sum, e := sha256.End(x)
	if e != api.OK {
		t.Fatalf("End: %d", e)
	}
	return sum
}

// growing are pieces of 1, 2, 3 bytes and so on, the last one of what is left.
func growing(s string) []string {
	var pieces []string
	for rest, n := s, 1; rest != ""; n++ {
		length := min(n, len(rest))
		pieces, rest = append(pieces, rest[:length]), rest[length:]
	}
	return pieces
}

// P2.3: from no piece, or empty ones, to one byte at a time.
func TestPiecesOfEveryKind(t *testing.T) {
	for n := range 300 {
		s := mixed(n)
		want := summed(s)
		for _, pieces := range [][]string{
			{s},
			{"", s},
			{s, ""},
			{"", s[:n/2], "", "", s[n/2:], ""},
			strings.Split(s, ""),
			growing(s),
		} {
			if got := inPieces(t, pieces...); got != want || got != sha256.Sum(s) {
				t.Fatalf("%d bytes in %d pieces: %x, not %x", n, len(pieces), got, want)
			}
		}
	}
	if got := inPieces(t); got != summed("") {
		t.Errorf("no piece: %x", got)
	}
	if got := inPieces(t, "", "", ""); got != summed("") {
		t.Errorf("empty pieces: %x", got)
	}
}

// P2.3: pieces that end at each place about a block's edge, and go across it.
func TestPiecesAcrossEdges(t *testing.T) {
	for _, n := range edges()[:24] {
		s := mixed(n)
		want := summed(s)
		for i := range n + 1 {
			if got := inPieces(t, s[:i], s[i:]); got != want {
				t.Fatalf("%d bytes cut at %d: %x, not %x", n, i, got, want)
			}
			for j := i; j <= n; j += 13 {
				if got := inPieces(t, s[:i], s[i:j], s[j:]); got != want {
					t.Fatalf("%d bytes cut at %d and %d: %x, not %x", n, i, j, got, want)
				}
			}
		}
	}
}

// P2.3: pieces of one length each, from 1 byte to several blocks.
func TestPiecesOfOneLength(t *testing.T) {
	s := mixed(1537)
	want := summed(s)
	for length := 1; length <= 260; length++ {
		var pieces []string
		for rest := s; rest != ""; {
			n := min(length, len(rest))
			pieces, rest = append(pieces, rest[:n]), rest[n:]
		}
		if got := inPieces(t, pieces...); got != want {
			t.Fatalf("pieces of %d bytes: %x, not %x", length, got, want)
		}
	}
}

// P2.3: any pieces, of any bytes.
func TestAnyPieces(t *testing.T) {
	r := rand.New(rand.NewSource(2))
	for range 500 {
		pieces := make([]string, r.Intn(30))
		for i := range pieces {
			b := make([]byte, r.Intn(1+r.Intn(300)))
			r.Read(b)
			pieces[i] = string(b)
		}
		want := summed(strings.Join(pieces, ""))
		if got := inPieces(t, pieces...); got != want {
			t.Fatalf("%d pieces: %x, not %x", len(pieces), got, want)
		}
		if got := sha256.Sum(pieces...); got != want {
			t.Fatalf("Sum of %d pieces: %x, not %x", len(pieces), got, want)
		}
	}
}

// P2.3: a sum may be left off and gone on with at any place, by what it tells of itself alone.
func TestGoingOnFromWhatIsTold(t *testing.T) {
	s := mixed(260)
	for i := range len(s) {
		x, e := sha256.Write(sha256.New(), s[:i])
		told := api.Sum256{H: x.H, Buf: strings.Clone(x.Buf), N: x.N}
		if want := written(t, sha256.New(), s[:i]); told != want || e != api.OK {
			t.Fatalf("behind %d bytes: %x, %d, not %x", i, told, e, want)
		}
		x, _ = sha256.Write(told, s[i:])
		if got, e := sha256.End(x); got != summed(s) || e != api.OK {
			t.Fatalf("gone on with behind %d bytes: %x, %d", i, got, e)
		}
	}
}

// P1, P2.1: no call panics, whatever it is handed; beside an error there is nothing.
func FuzzAnySum(f *testing.F) {
	f.Add("", uint64(0), "", uint32(0))
	f.Add("abc", uint64(3), "def", uint32(1))
	f.Add(mixed(63), uint64(most-1), "ab", ^uint32(0))
	f.Add(mixed(64), uint64(64), "", uint32(2))
	f.Add("", uint64(most), "a", uint32(3))
	f.Add("", uint64(most+1), "a", uint32(4))
	f.Add(mixed(63), ^uint64(0), mixed(100), uint32(5))
	f.Fuzz(func(t *testing.T, waits string, n uint64, s string, word uint32) {
		x := api.Sum256{H: [8]uint32{word, 0, ^word, 3: word * word, 7: word + 1}, Buf: waits, N: n}
		right := len(waits) < 64 && n <= most && n%64 == uint64(len(waits))
		if got := sha256.Right(x); got != right {
			t.Fatalf("Right(%x): %t", x, got)
		}
		next, e := sha256.Write(x, s)
		sum, f := sha256.End(x)
		switch {
		case !right:
			if e != api.ErrArg || next != (api.Sum256{}) || f != api.ErrArg || sum != "" {
				t.Errorf("of what may not be: %x, %d; %x, %d", next, e, sum, f)
			}
			return
		case uint64(len(s)) > most-n:
			if e != api.ErrLong || next != (api.Sum256{}) {
				t.Errorf("Write of too many: %x, %d", next, e)
			}
		case e != api.OK || next != written(t, x, s):
			t.Errorf("Write(%x, %q): %x, %d", x, s, next, e)
		}
		if f != api.OK || sum != ended(t, x) {
			t.Errorf("End(%x): %x, %d", x, sum, f)
		}
		if got := sha256.Sum(waits, s); got != summed(waits+s) {
			t.Errorf("Sum(%q, %q): %x", waits, s, got)
		}
	})
}
