package value

import (
	"strconv"
	"strings"

	"imprimatur/api"
)

// textOf is for values that may be.
func textOf(v api.Value) string {
	var out strings.Builder
	write(&out, v)
	return out.String()
}

func write(out *strings.Builder, v api.Value) {
	switch v.Kind {
	case api.VNumber:
		out.WriteString(strconv.FormatInt(v.N, 10))
	case api.VText:
		out.WriteString(quoted(v.S))
	case api.VList:
		writeItems(out, "[", v, "]")
	case api.VMap:
		writeItems(out, "{", v, "}")
	}
}

// writeItems goes by the keys alone: a list has none, values by keys have one for each item.
func writeItems(out *strings.Builder, begin string, v api.Value, end string) {
	out.WriteString(begin)
	for i, item := range v.Items {
		if i > 0 {
			out.WriteString(",")
		}
		if len(v.Keys) > 0 {
			out.WriteString(quoted(v.Keys[i]) + ":")
		}
		write(out, item)
	}
	out.WriteString(end)
}

// quoted marks what is `\` ahead of the quotes, so that no mark of a quote is marked again.
func quoted(s string) string {
	return `"` + strings.ReplaceAll(strings.ReplaceAll(s, `\`, `\\`), `"`, `\"`) + `"`
}
