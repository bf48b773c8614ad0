package report

import (
	"strings"

	"cadence/api"
	"cadence/tree"
)

// maxPath is how many bytes ParsePath takes; Path may write more.
const maxPath = 4000

// Path is a path as text.
func Path(p []string) string {
	if len(p) == 0 {
		return "/"
	}
	var b strings.Builder
	for _, name := range p {
		b.WriteString("/" + quoted(name))
	}
	return b.String()
}

// quoted asks tree for the text of an edge of that name, and leaves what stands around the name: so names are quoted here as they are there.
func quoted(name string) string {
	s := tree.Text(api.Tree{{Name: name}})
	return strings.TrimSuffix(strings.TrimPrefix(s, "{"), ": {}}")
}

// ParsePath reads more texts than Path writes, and then asks whether Path writes this one: so there is one rule of what a path's text is, and not two.
func ParsePath(s string) ([]string, api.Errno) {
	if len(s) > maxPath {
		return nil, api.ErrLong
	}
	r := reader{[]rune(s)}
	p := r.names()
	if Path(p) != s {
		return nil, api.ErrBad
	}
	return p, api.OK
}
