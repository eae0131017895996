package parse

import (
	"imprimatur/api"
	"imprimatur/value"
)

// reader goes through a text, from byte to byte. It panics with the first error that it meets, and with nothing else.
type reader struct {
	text  string
	at    int
	begun int              // values
	open  stack[api.Value] // lists and maps that have not ended, the outermost one first
}

// read is the value that all of a text is.
func read(s string) (v api.Value, e api.Errno) {
	defer func() {
		if met := recover(); met != nil {
			v, e = api.Value{}, met.(api.Errno)
		}
	}()
	r := reader{text: s}
	v = r.value()
	if r.at < len(s) {
		panic(api.ErrSyntax)
	}
	return v, api.OK
}

// value reads one with all that stands in it.
func (r *reader) value() api.Value {
	for {
		v, whole := r.begin()
		for whole && r.open.size() > 0 {
			v, whole = r.putIn(v)
		}
		if whole {
			return v
		}
	}
}

// begin reads a value in which nothing stands, or opens one: it is not whole then.
func (r *reader) begin() (v api.Value, whole bool) {
	r.mayBegin()
	switch b := r.here(); {
	case b == '-' || isDigit(b):
		return value.Number(r.number()), true
	case b == '"':
		return value.Text(r.quoted()), true
	case b == '[':
		return r.row(api.VList)
	case b == '{':
		return r.row(api.VMap)
	}
	panic(api.ErrSyntax)
}

// mayBegin comes ahead of any look at the text: a value that would be too deep, or too many, is so even where the text ends.
func (r *reader) mayBegin() {
	if r.open.size() == api.MaxDepth {
		panic(api.ErrDeep)
	}
	if r.begun == api.MaxNodes {
		panic(api.ErrMany)
	}
	r.begun++
}

// row reads a list or map that ends behind its sign, or opens it.
func (r *reader) row(kind int) (v api.Value, whole bool) {
	r.at++
	v = api.Value{Kind: kind}
	if r.skip(endOf(kind)) {
		return v, true
	}
	r.open.push(v)
	r.key()
	return api.Value{}, false
}

// putIn puts an item into the innermost list or map that is open. That is whole, if it ends there.
func (r *reader) putIn(item api.Value) (v api.Value, whole bool) {
	row := r.open.top()
	row.Items = append(row.Items, item)
	switch r.take() {
	case ',':
		r.key()
		return api.Value{}, false
	case endOf(row.Kind):
		return r.open.pop(), true
	}
	panic(api.ErrSyntax)
}

// key reads what stands ahead of an item: in a list nothing.
func (r *reader) key() {
	row := r.open.top()
	if row.Kind != api.VMap {
		return
	}
	if r.here() != '"' {
		panic(api.ErrSyntax)
	}
	key := r.quoted()
	if n := len(row.Keys); n > 0 && key <= row.Keys[n-1] {
		panic(api.ErrOrder)
	}
	if r.take() != ':' {
		panic(api.ErrSyntax)
	}
	row.Keys = append(row.Keys, key)
}

// here is the byte that comes next.
func (r *reader) here() byte {
	if r.at == len(r.text) {
		panic(api.ErrShort)
	}
	return r.text[r.at]
}

// take is the byte that comes next, and goes on behind it.
func (r *reader) take() byte {
	b := r.here()
	r.at++
	return b
}

// skip goes on behind a byte, if it comes next.
func (r *reader) skip(b byte) bool {
	is := r.at < len(r.text) && r.text[r.at] == b
	if is {
		r.at++
	}
	return is
}

func endOf(kind int) byte {
	if kind == api.VMap {
		return '}'
	}
	return ']'
}
