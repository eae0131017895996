package sha512_test

import (
	"math/rand"
	"strings"
	"testing"

	"imprimatur/api"
	"imprimatur/sha512"
)

// inPieces is what a sum that goes on from nothing, piece by piece, ends in.
func inPieces(t *testing.T, pieces ...string) string {
	t.Helper()
	x := sha512.New()
	for i, p := range pieces {
		next, e := sha512.Write(x, p)
		if e != api.OK || !sha512.Right(next) || next.N != x.N+uint64(len(p)) {
			t.Fatalf("Write of piece %d, of %d bytes, to N %d: %x, %d", i, len(p), x.N, next, e)
		}
		x = next
	}
	sum, e := sha512.End(x)
	if e != api.OK {
		t.Fatalf("End: %d", e)
	}
	return sum
}

// growing are pieces of 1, 2, 3 bytes and so on, the last one of what is left.
func growing(s string) []string {
	var pieces []string
	for rest, n := s, 1; rest != ""; n++ {
		length := min(n, len(rest))
		pieces, rest = append(pieces, rest[:length]), rest[length:]
	}
	return pieces
}

// P3.3: from no piece, or empty ones, to one byte at a time.
func TestPiecesOfEveryKind(t *testing.T) {
	for n := range 600 {
		s := mixed(n)
		want := summed(s)
		for _, pieces := range [][]string{
			{s},
			{"", s},
			{s, ""},
			{"", s[:n/2], "", "", s[n/2:], ""},
			strings.Split(s, ""),
			growing(s),
		} {
			if got := inPieces(t, pieces...); got != want || got != sha512.Sum(s) {
				t.Fatalf("%d bytes in %d pieces: %x, not %x", n, len(pieces), got, want)
			}
		}
	}
	if got := inPieces(t); got != summed("") {
		t.Errorf("no piece: %x", got)
	}
	if got := inPieces(t, "", "", ""); got != summed("") {
		t.Errorf("empty pieces: %x", got)
	}
}

// P3.3: pieces that end at each place about a block's edge, and go across it.
func TestPiecesAcrossEdges(t *testing.T) {
	for _, n := range edges()[:26] {
		s := mixed(n)
		want := summed(s)
		for i := range n + 1 {
			if got := inPieces(t, s[:i], s[i:]); got != want {
				t.Fatalf("%d bytes cut at %d: %x, not %x", n, i, got, want)
			}
			for j := i; j <= n; j += 17 {
				if got := inPieces(t, s[:i], s[i:j], s[j:]); got != want {
					t.Fatalf("%d bytes cut at %d and %d: %x, not %x", n, i, j, got, want)
				}
			}
		}
	}
}

// P3.3: pieces of one length each, from 1 byte to several blocks.
func TestPiecesOfOneLength(t *testing.T) {
	s := mixed(3073)
	want := summed(s)
	for length := 1; length <= 520; length++ {
		var pieces []string
		for rest := s; rest != ""; {
			n := min(length, len(rest))
			pieces, rest = append(pieces, rest[:n]), rest[n:]
		}
		if got := inPieces(t, pieces...); got != want {
			t.Fatalf("pieces of %d bytes: %x, not %x", length, got, want)
		}
	}
}

// P3.3: any pieces, of any bytes.
func TestAnyPieces(t *testing.T) {
	r := rand.New(rand.NewSource(3))
	for range 500 {
		pieces := make([]string, r.Intn(30))
		for i := range pieces {
			b := make([]byte, r.Intn(1+r.Intn(600)))
			r.Read(b)
			pieces[i] = string(b)
		}
		want := summed(strings.Join(pieces, ""))
		if got := inPieces(t, pieces...); got != want {
			t.Fatalf("%d pieces: %x, not %x", len(pieces), got, want)
		}
		if got := sha512.Sum(pieces...); got != want {
			t.Fatalf("Sum of %d pieces: %x, not %x", len(pieces), got, want)
		}
	}
}

// P3.3: a sum may be left off and gone on with at any place, by what it tells of itself alone.
func TestGoingOnFromWhatIsTold(t *testing.T) {
	s := mixed(520)
	for i := range len(s) {
		x, e := sha512.Write(sha512.New(), s[:i])
		told := api.Sum512{H: x.H, Buf: strings.Clone(x.Buf), N: x.N}
		if want := written(t, sha512.New(), s[:i]); told != want || e != api.OK {
			t.Fatalf("behind %d bytes: %x, %d, not %x", i, told, e, want)
		}
		x, _ = sha512.Write(told, s[i:])
		if got, e := sha512.End(x); got != summed(s) || e != api.OK {
			t.Fatalf("gone on with behind %d bytes: %x, %d", i, got, e)
		}
	}
}

// P1, P3.1: no call panics, whatever it is handed; beside an error there is nothing.
func FuzzAnySum(f *testing.F) {
	f.Add("", uint64(0), "", uint64(0))
	f.Add("abc", uint64(3), "def", uint64(1))
	f.Add(mixed(127), uint64(most-1), "ab", ^uint64(0))
	f.Add(mixed(128), uint64(128), "", uint64(2))
	f.Add("", uint64(most), "a", uint64(3))
	f.Add("", uint64(most+1), "a", uint64(4))
	f.Add(mixed(127), ^uint64(0), mixed(200), uint64(5))
	f.Fuzz(func(t *testing.T, waits string, n uint64, s string, word uint64) {
		x := api.Sum512{H: [8]uint64{word, 0, ^word, 3: word * word, 7: word + 1}, Buf: waits, N: n}
		right := len(waits) < 128 && n <= most && n%128 == uint64(len(waits))
		if got := sha512.Right(x); got != right {
			t.Fatalf("Right(%x): %t", x, got)
		}
		next, e := sha512.Write(x, s)
		sum, f := sha512.End(x)
		switch {
		case !right:
			if e != api.ErrArg || next != (api.Sum512{}) || f != api.ErrArg || sum != "" {
				t.Errorf("of what may not be: %x, %d; %x, %d", next, e, sum, f)
			}
			return
		case uint64(len(s)) > most-n:
			if e != api.ErrLong || next != (api.Sum512{}) {
				t.Errorf("Write of too many: %x, %d", next, e)
			}
		case e != api.OK || next != written(t, x, s):
			t.Errorf("Write(%x, %q): %x, %d", x, s, next, e)
		}
		if f != api.OK || sum != ended(t, x) {
			t.Errorf("End(%x): %x, %d", x, sum, f)
		}
		if got := sha512.Sum(waits, s); got != summed(waits+s) {
			t.Errorf("Sum(%q, %q): %x", waits, s, got)
		}
	})
}
