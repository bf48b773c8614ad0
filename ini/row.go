package ini

import (
	"strings"

	"cadence/api"
	"cadence/lines"
)

// Kinds of lines.
const (
	none = iota // no line of a file is of this kind
	remark
	header
	key
)

// row is a line of a file, and what it says.
type row struct {
	line        api.Line
	kind        int
	name, value string // the section's or the key's; a key's value
	at          int    // where in the line's text the value stands
}

func rowOf(l api.Line) row {
	_, mid, _ := lines.Trim(l.Text)
	switch {
	case strings.Contains(l.Text, "\r"):
		return row{}
	case mid == "" || mid[0] == ';' || mid[0] == '#':
		return row{line: l, kind: remark}
	case mid[0] == '[':
		return headerOf(l, mid[1:])
	}
	return keyOf(l)
}

// headerOf reads what is behind the first bracket.
func headerOf(l api.Line, behind string) row {
	name, shut := strings.CutSuffix(behind, "]")
	if !shut || !isSection(name) {
		return row{}
	}
	return row{line: l, kind: header, name: name}
}

func keyOf(l api.Line) row {
	ahead, behind, is := strings.Cut(l.Text, "=")
	_, name, _ := lines.Trim(ahead)
	gap, value, _ := lines.Trim(behind)
	if !is || !isKey(name) || !isValue(value) {
		return row{}
	}
	at := len(ahead) + len("=")
	if value != "" {
		at += len(gap)
	}
	return row{line: l, kind: key, name: name, value: value, at: at}
}
