package marks

import (
	"strings"

	"cadence/api"
	"cadence/lines"
)

// Kinds of lines.
const (
	none = iota // no line of a file is of this kind
	blank
	top
	open
	shut
	linking
	heading
	over // there is no line any more
)

// row is what a line says, and where it stands.
type row struct {
	span
	kind        int
	name, title string // what they mean: a link's place and title; a folder's name
	at          int    // where a link's title stands
}

func (r row) counts() bool { return r.kind != blank }

func rowsOf(l []api.Line) []row {
	var rows []row
	from := 0
	for _, x := range l {
		r := rowOf(x.Text)
		r.span = span{from, from + len(x.Text) + len(x.End)}
		r.at += from
		rows = append(rows, r)
		from = r.to
	}
	return rows
}

// rowOf is a line as if it was the first one. A 13 needs no look of its own: no word has it, and nothing may mean it.
func rowOf(text string) row {
	front, mid, _ := lines.Trim(text)
	switch mid {
	case "":
		return row{kind: blank}
	case wordTop:
		return row{kind: top}
	case wordOpen:
		return row{kind: open}
	case wordShut:
		return row{kind: shut}
	}
	if name, is := between(mid, headFront, headBack); is {
		return headingOf(name)
	}
	if behind, is := between(mid, linkFront, linkBack); is {
		return linkingOf(behind, len(front)+len(linkFront))
	}
	return row{}
}

// between is what a text has between these two; false, if they are not its ends.
func between(text, front, back string) (string, bool) {
	rest, begins := strings.CutPrefix(text, front)
	mid, ends := strings.CutSuffix(rest, back)
	return mid, begins && ends
}

func headingOf(text string) row {
	name, is := meaning(text, isPlain)
	if !is {
		return row{}
	}
	return row{kind: heading, name: name}
}

// linkingOf reads a place, that stands at this place of its line, and a title.
func linkingOf(text string, at int) row {
	ahead, behind, parted := strings.Cut(text, linkMid)
	place, hasPlace := meaning(ahead, isPlain)
	title, hasTitle := meaning(behind, isTitle)
	if !parted || !hasPlace || !hasTitle {
		return row{}
	}
	return row{kind: linking, name: place, title: title, at: at + len(ahead) + len(linkMid)}
}
