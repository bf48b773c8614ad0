package card

import (
	"strings"

	"cadence/api"
	"cadence/lines"
)

// Kinds of lines.
const (
	none = iota // no line of a file is of this kind
	blank
	opening
	closing
	property
)

// row is what a line says.
type row struct {
	kind        int
	word, value string // the block's word; the property's, and what its value means
}

func rowOf(text string) row {
	_, mid, _ := lines.Trim(text)
	word, behind, is := strings.Cut(text, ":")
	switch {
	case mid == "":
		return row{kind: blank}
	case !is || !isWord(word) || strings.Contains(text, "\r"):
		return row{}
	case word == wordBegin:
		return edgeOf(opening, behind)
	case word == wordEnd:
		return edgeOf(closing, behind)
	}
	value, is := meaning(behind)
	if !is {
		return row{}
	}
	return row{kind: property, word: word, value: value}
}

// edgeOf is the first or the last line of a block.
func edgeOf(kind int, word string) row {
	if !isWord(word) {
		return row{}
	}
	return row{kind: kind, word: word}
}

// meaning is what a value means; false, if it may not be written so. The place from which it goes on tells what the next byte is: at plain, itself; at slashed, what a backslash makes of it.
func meaning(text string) (string, bool) {
	var b []byte
	at := 0
plain:
	if at == len(text) {
		return string(b), len(b) <= api.MaxName
	}
	at++
	if text[at-1] == '\\' {
		goto slashed
	}
	b = append(b, text[at-1])
	goto plain
slashed:
	if at == len(text) {
		return "", false
	}
	at++
	switch text[at-1] {
	case 'n':
		b = append(b, '\n')
	case 'r':
		b = append(b, '\r')
	case '\\':
		b = append(b, '\\')
	default:
		return "", false
	}
	goto plain
}

// writing is how a value that means this is written.
func writing(means string) string {
	return strings.NewReplacer(`\`, `\\`, "\n", `\n`, "\r", `\r`).Replace(means)
}
