package tree

import (
	"strings"

	"cadence/api"
)

// Text leaves each edge's brace open till an edge comes that is not below it.
func Text(t api.Tree) string {
	b := []byte("{")
	open := 0
	for deep, x := range edges(t) {
		if deep <= open {
			b = append(b, strings.Repeat("}", open-deep+1)...)
			b = append(b, ", "...)
		}
		b = append(quote(b, x.Name), ": {"...)
		open = deep
	}
	return string(b) + strings.Repeat("}", open+1)
}

// quote puts name behind b, quoted.
func quote(b []byte, name string) []byte {
	const digits = "0123456789abcdef"
	b = append(b, '"')
	for i := range len(name) {
		switch c := name[i]; {
		case c == '"' || c == '\\':
			b = append(b, '\\', c)
		case c < 32 || c > 126:
			b = append(b, '\\', 'x', digits[c>>4], digits[c&15])
		default:
			b = append(b, c)
		}
	}
	return append(b, '"')
}
