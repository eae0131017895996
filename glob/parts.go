package glob

import (
	"iter"
	"strings"

	"imprimatur/api"
)

const (
	between = "/" // two parts
	plain   = "abcdefghijklmnopqrstuvwxyzABCDEFGHIJKLMNOPQRSTUVWXYZ0123456789.-_"
)

// mayBe tells whether a text may be whose parts are of these bytes. An empty text is one part, that is empty.
func mayBe(s, these string) bool {
	if len(s) > api.MaxPattern {
		return false
	}
	for part := range strings.SplitSeq(s, between) {
		if part == "" || part == "." || part == ".." || !isOf(part, these) {
			return false
		}
	}
	return true
}

func isOf(part, these string) bool {
	for i := range len(part) {
		if strings.IndexByte(these, part[i]) < 0 {
			return false
		}
	}
	return true
}

// isOne is for a pattern and a path that may be.
func isOne(pattern, path string) bool {
	if strings.Count(pattern, between) != strings.Count(path, between) {
		return false
	}
	for mask, part := range sideBySide(pattern, path) {
		if !covers(mask, part) {
			return false
		}
	}
	return true
}

// sideBySide are the parts of both, which have as many.
func sideBySide(pattern, path string) iter.Seq2[string, string] {
	return func(yield func(mask, part string) bool) {
		masks, parts := pattern, path
		for more := true; more; {
			var mask, part string
			mask, masks, more = strings.Cut(masks, between)
			part, parts, _ = strings.Cut(parts, between)
			if !yield(mask, part) {
				return
			}
		}
	}
}

// covers tells whether a part is one of a pattern's part. Where a byte does not fit, only the last star that was met takes one more: the stars ahead of it took as few as they could, so that to try one of them again could only leave less, and would take long.
func covers(mask, part string) bool {
	at, star, taken := 0, -1, 0
	for next := 0; next < len(part); {
		switch {
		case at < len(mask) && mask[at] == '*':
			star, taken = at, next
			at++
		case at < len(mask) && (mask[at] == '?' || mask[at] == part[next]):
			at++
			next++
		case star >= 0:
			taken++
			at, next = star+1, taken
		default:
			return false
		}
	}
	return strings.Trim(mask[at:], "*") == ""
}
