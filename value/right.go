package value

import "imprimatur/api"

const (
	greatest = 1 << 40 // of a number, and as far below 0
	longest  = 4000    // bytes of a text
	lowest   = 32      // of a text's bytes
)

// roomBeside tells whether a value may be where it may be so deep and so many, and how many more there may then be beside it. It ends at the first one too deep or too many, so that it need not go through all of what is without end, or far too great.
func roomBeside(v api.Value, levels, room int) (int, bool) {
	if levels == 0 || room <= len(v.Items) || !fieldsMayBe(v) {
		return 0, false
	}
	room--
	for _, item := range v.Items {
		left, ok := roomBeside(item, levels-1, room)
		if !ok {
			return 0, false
		}
		room = left
	}
	return room, true
}

// fieldsMayBe looks at a value's own fields, not at its items' ones.
func fieldsMayBe(v api.Value) bool {
	switch v.Kind {
	case api.VNumber:
		return isNumber(v.N) && v.S == "" && len(v.Items) == 0 && len(v.Keys) == 0
	case api.VText:
		return isText(v.S) && v.N == 0 && len(v.Items) == 0 && len(v.Keys) == 0
	case api.VList:
		return v.N == 0 && v.S == "" && len(v.Keys) == 0
	case api.VMap:
		return v.N == 0 && v.S == "" && len(v.Keys) == len(v.Items) && areKeys(v.Keys)
	}
	return false
}

func isNumber(n int64) bool {
	return n >= -greatest && n <= greatest
}

func isText(s string) bool {
	if len(s) > longest {
		return false
	}
	for i := range len(s) {
		if s[i] < lowest {
			return false
		}
	}
	return true
}

func areKeys(keys []string) bool {
	for i, key := range keys {
		if !isText(key) || i > 0 && key <= keys[i-1] {
			return false
		}
	}
	return true
}
