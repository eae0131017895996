package deleg_test

import (
	"fmt"
	"slices"
	"testing"

	"imprimatur/api"
)

// chain is a row of so many that are held, each of which hands all paths on to the one behind it. The last one hands them on to `behind`, which is not among them.
func chain(n int) []api.Held {
	out := row(has("targets", on("c1", "*")))
	for i := 1; i < n; i++ {
		out = append(out, has(fmt.Sprint("c", i), on(fmt.Sprint("c", i+1), "*")))
	}
	return put(out, n-1, has(out[n-1].Name, on("behind", "*")))
}

// P16.1: one after another: up to 32 are seen, and then there is none, whatever waits.
func TestOneAfterAnother(t *testing.T) {
	t.Parallel()
	for n := 1; n <= most; n++ {
		held := chain(n)
		seen := namesOf(held)
		name, what := seen[n-1], fmt.Sprint("so many: ", n)
		finds(t, what, "x", put(held, n-1, has(name, files("x"))), seen...)
		findsNone(t, what+", the last one hands on to none", "x", put(held, n-1, has(name)), seen...)
		if n > 1 {
			findsNone(t, what+", the last one hands on to one ahead", "x", put(held, n-1, has(name, on(seen[n/2], "*"))), seen...)
		}
		if n == most {
			findsNone(t, what+", and one behind", "x", held, seen...)
			findsNone(t, what+", and one behind, Last", "x", put(held, n-1, has(name, last("behind", "*"))), seen...)
			continue
		}
		wants(t, what+", and one behind", "x", held, name, "behind", seen...)
		finds(t, what+", and one behind", "x", append(held, has("behind", files("x"))), append(seen, "behind")...)
		findsNone(t, what+", and one behind", "x", append(held, has("behind")), append(seen, "behind")...)
		wants(t, what+", and one behind, though as many are held as may be", "x", fillUp(held), name, "behind", seen...)
	}
}

// fillUp is the row with others, as many as there may be.
func fillUp(held []api.Held) []api.Held {
	out := slices.Clone(held)
	for i := 0; len(out) < most; i++ {
		out = append(out, has(fmt.Sprint("more-", i), files("x")))
	}
	return out
}

// P16.1: so it is where others wait from before.
func TestOneAfterAnotherWhileOthersWait(t *testing.T) {
	t.Parallel()
	for n := 2; n <= most; n++ {
		held := chain(n)
		held[0], held[n-1] = has("targets", on("c1", "*"), on("waits", "*")), has(held[n-1].Name)
		seen, what := namesOf(held), fmt.Sprint("so many: ", n)
		if n == most {
			findsNone(t, what+", while one waits", "x", held, seen...)
			findsNone(t, what+", while one that was seen waits", "x", put(held, 0, has("targets", on("c1", "*"), on("c2", "*"))), seen...)
			continue
		}
		wants(t, what+", while one waits", "x", held, "targets", "waits", seen...)
		finds(t, what+", while one waits", "x", append(held, has("waits", files("x"))), append(seen, "waits")...)
	}
}

// sideBySide is a row of those that are held, where the one at a place of 16 to whom `targets` hands on hands on to others, up to so many in all; and in which order they are asked.
func sideBySide(n, at int) ([]api.Held, []string) {
	var first, below []part
	held, seen := row(has("targets")), []string{"targets"}
	for i := range min(n-1, 16) {
		name := fmt.Sprint("d", i)
		first = append(first, on(name, "*"))
		held, seen = append(held, has(name)), append(seen, name)
	}
	for i := range n - len(seen) {
		name := fmt.Sprint("e", i)
		below = append(below, on(name, "*"))
		held, seen = append(held, has(name)), slices.Insert(seen, at+2+i, name)
	}
	held[0] = has("targets", first...)
	if len(below) > 0 {
		held[at+1] = has(fmt.Sprint("d", at), below...)
	}
	return held, seen
}

// P16.1: side by side, too: up to 32 are seen, and the next one is not wanted.
func TestSideBySide(t *testing.T) {
	t.Parallel()
	for n := 2; n <= most+1; n++ {
		for _, at := range []int{0, 1, 7, 14, 15} {
			held, order := sideBySide(n, at)
			what := fmt.Sprintf("%d, below %d", n, at)
			end := order[n-1]
			place := slices.Index(namesOf(held), end)
			holder := "targets"
			if end[0] == 'e' {
				holder = fmt.Sprint("d", at)
			}
			if n > most {
				findsNone(t, what+", the last one is not held", "x", without(held, place), order[:most]...)
				fails(t, what, "x", held)
				continue
			}
			findsNone(t, what, "x", held, order...)
			wants(t, what+", the last one is not held", "x", without(held, place), holder, end, order[:n-1]...)
			finds(t, what+", the last one has it", "x", put(held, place, has(end, files("x"))), order...)
		}
	}
}

// P16.1: whichever of 33 that are to be asked is not held, it is wanted in its turn, but the last one.
func TestWhichOfManyIsNotHeld(t *testing.T) {
	t.Parallel()
	for _, at := range []int{0, 9, 15} {
		held, order := sideBySide(most+1, at)
		for i, name := range order[:most] {
			holder := "targets"
			if name[0] == 'e' {
				holder = fmt.Sprint("d", at)
			}
			rest := slices.DeleteFunc(slices.Clone(held), func(h api.Held) bool { return h.Name == name })
			if i == 0 {
				wantsFirst(t, "the first one", "x", rest)
			} else {
				wants(t, name, "x", rest, holder, name, order[:i]...)
			}
		}
	}
}

// P16.1: those that are passed over do not count: many that were seen wait, and there are no more than 32 for all that.
func TestPassedOverDoNotCount(t *testing.T) {
	t.Parallel()
	for n := 3; n <= most; n++ {
		held := chain(n)
		seen := namesOf(held)
		for i := range held {
			var back []part
			if i < n-1 {
				back = append(back, on(seen[i+1], "*"))
			}
			for _, name := range seen[max(1, i-14) : i+1] {
				back = append(back, on(name, "*"))
			}
			held[i] = has(seen[i], back...)
		}
		findsNone(t, fmt.Sprint("so many: ", n), "x", held, seen...)
		finds(t, fmt.Sprint("so many: ", n), "x", put(held, n-1, has(seen[n-1], files("x"))), seen...)
	}
	all := fillUp(row(has("targets")))
	for i, h := range all {
		var others []part
		for k := range 15 {
			if other := all[(i+k*5+1)%most].Name; other != "targets" {
				others = append(others, on(other, "*"))
			}
		}
		all[i] = has(h.Name, others...)
	}
	walk, e := agrees(t, "all to all", "x", all)
	if e != api.OK || walk.State != api.WNone || len(walk.Seen) != most {
		t.Errorf("all to all: %+v, %d", walk, e)
	}
}
