package parse

import (
	"strconv"

	"imprimatur/api"
)

const (
	greatest = 1 << 40 // of a number, and as far below 0
	longest  = 4000    // bytes of a text
	lowest   = 32      // of a text's bytes
)

// number reads one from its sign, or its first digit, on.
func (r *reader) number() int64 {
	from := r.at
	below := r.skip('-')
	digits := r.digits()
	if digits == "" || digits[0] == '0' && (below || len(digits) > 1) {
		panic(api.ErrSyntax)
	}
	// What goes beyond 64 bits is answered as the greatest or least number of them, which is beyond what may be, too.
	n, _ := strconv.ParseInt(r.text[from:r.at], 10, 64)
	if n < -greatest || n > greatest {
		panic(api.ErrLong)
	}
	return n
}

// digits are all that come next.
func (r *reader) digits() string {
	from := r.at
	for r.at < len(r.text) && isDigit(r.text[r.at]) {
		r.at++
	}
	return r.text[from:r.at]
}

func isDigit(b byte) bool {
	return b >= '0' && b <= '9'
}

// quoted reads a text from its first quote on.
func (r *reader) quoted() string {
	r.at++
	var out []byte
	for {
		b := r.take()
		switch {
		case b == '"':
			return string(out)
		case b == '\\':
			b = r.marked()
		case b < lowest:
			panic(api.ErrSyntax)
		}
		if len(out) == longest {
			panic(api.ErrLong)
		}
		out = append(out, b)
	}
}

// marked is the byte that a `\` stands ahead of.
func (r *reader) marked() byte {
	b := r.take()
	if b != '"' && b != '\\' {
		panic(api.ErrSyntax)
	}
	return b
}
