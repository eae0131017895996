// Package octet is layer 1: bytes as digits, numbers as bytes, and rows of parts as one text. See shared/doc/01-octet.md.
package octet

import (
	"strings"

	"imprimatur/api"
)

const (
	digits      = "0123456789abcdef"
	widest      = 8 // bytes of a number
	lengthWidth = 4 // bytes of a part's length
)

// Hex are bytes' digits: two of each byte, the higher one first.
func Hex(s string) string {
	out := make([]byte, 0, 2*len(s))
	for i := range len(s) {
		out = append(out, digits[s[i]>>4], digits[s[i]&15])
	}
	return string(out)
}

// Unhex are the bytes of digits.
func Unhex(s string) (string, api.Errno) {
	if len(s)%2 != 0 {
		return "", api.ErrHex
	}
	out := make([]byte, 0, len(s)/2)
	for i := 0; i < len(s); i += 2 {
		high, low := strings.IndexByte(digits, s[i]), strings.IndexByte(digits, s[i+1])
		if high < 0 || low < 0 {
			return "", api.ErrHex
		}
		out = append(out, byte(high<<4|low))
	}
	return string(out), api.OK
}

// Big are so many bytes of a number, the highest first.
func Big(n uint64, width int) (string, api.Errno) {
	// A shift by all 64 bits leaves 0, so that every number fits into 8 bytes.
	if width < 0 || width > widest || n>>(8*width) != 0 {
		return "", api.ErrArg
	}
	out := make([]byte, width)
	for i := range width {
		out[width-1-i] = byte(n >> (8 * i))
	}
	return string(out), api.OK
}

// Number is that of bytes, the highest first.
func Number(s string) (uint64, api.Errno) {
	if len(s) > widest {
		return 0, api.ErrArg
	}
	n := uint64(0)
	for i := range len(s) {
		n = n<<8 | uint64(s[i])
	}
	return n, api.OK
}

// Pack puts parts together, each behind its length, so that Unpack tells them apart.
func Pack(parts ...string) (string, api.Errno) {
	if len(parts) > api.MaxParts {
		return "", api.ErrMany
	}
	if !fit(parts...) {
		return "", api.ErrLong
	}
	var out strings.Builder
	for _, p := range parts {
		length, _ := Big(uint64(len(p)), lengthWidth) // what fits is far below 256^4
		out.WriteString(length)
		out.WriteString(p)
	}
	return out.String(), api.OK
}

// fit takes each part from the room that is left instead of adding lengths up, because a sum of lengths may wrap round.
func fit(parts ...string) bool {
	room := api.MaxText
	for _, p := range parts {
		room -= lengthWidth
		if len(p) > room {
			return false
		}
		room -= len(p)
	}
	return true
}

// Unpack are the parts that Pack put together.
func Unpack(s string) ([]string, api.Errno) {
	if len(s) > api.MaxText {
		return nil, api.ErrLong
	}
	var parts []string
	for rest := s; rest != ""; {
		if len(parts) == api.MaxParts {
			return nil, api.ErrMany
		}
		part, behind, e := first(rest)
		if e != api.OK {
			return nil, e
		}
		parts, rest = append(parts, part), behind
	}
	return parts, api.OK
}

// first parts the first part of a text from what stands behind it.
func first(s string) (part, behind string, e api.Errno) {
	if len(s) < lengthWidth {
		return "", "", api.ErrShort
	}
	length, _ := Number(s[:lengthWidth]) // 4 bytes are never too many
	s = s[lengthWidth:]
	if length > uint64(len(s)) {
		return "", "", api.ErrShort
	}
	return s[:length], s[length:], api.OK
}
