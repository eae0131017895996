package head

import (
	"imprimatur/api"
	"imprimatur/octet"
)

const (
	mark        = "head" // ahead of what is signed, so that a log's signature of a head is none of anything else
	numberWidth = 8      // bytes of a number
)

// signedOf is what is signed of a head.
func signedOf(h api.Head) string {
	return packed(mark, inBytes(h.Size), inBytes(h.Time), h.Root)
}

func textOf(h api.Head) string {
	return packed(signedOf(h), h.Sig)
}

// packed and inBytes are for heads that may be, whose few parts are short and whose numbers are not below 0, so that there is no error to tell.
func packed(parts ...string) string {
	s, _ := octet.Pack(parts...)
	return s
}

func inBytes(n int) string {
	s, _ := octet.Big(uint64(n), numberWidth)
	return s
}

// read takes the parts of a text for those of a head, if there are so many. It looks at nothing else in them: what is no head's text is another one when it is written.
func read(s string) (api.Head, bool) {
	outer, _ := octet.Unpack(s)
	if len(outer) != 2 {
		return api.Head{}, false
	}
	inner, _ := octet.Unpack(outer[0])
	if len(inner) != 4 {
		return api.Head{}, false
	}
	size, _ := octet.Number(inner[1])
	time, _ := octet.Number(inner[2])
	return api.Head{Size: int(size), Root: inner[3], Time: int(time), Sig: outer[1]}, true
}
