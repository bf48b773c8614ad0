package report

import (
	"slices"
	"strings"
)

// reader reads what Path wrote, rune by rune. Of any other text it reads some names, too: that their path is another text is ParsePath's to find.
type reader struct{ rest []rune }

// take takes the next runes, if they are just these.
func (r *reader) take(want ...rune) bool {
	n := len(want)
	if len(r.rest) < n || !slices.Equal(r.rest[:n], want) {
		return false
	}
	r.rest = r.rest[n:]
	return true
}

// next takes the next rune, whichever it is; behind the last one it is 0, which no path's text has.
func (r *reader) next() rune {
	if len(r.rest) == 0 {
		return 0
	}
	c := r.rest[0]
	r.rest = r.rest[1:]
	return c
}

func (r *reader) names() []string {
	var p []string
	for r.take('/', '"') {
		p = append(p, r.name())
	}
	return p
}

// name ends at its quote, or where the text does.
func (r *reader) name() string {
	var b []byte
	for len(r.rest) > 0 && !r.take('"') {
		b = append(b, r.char())
	}
	return string(b)
}

// char is the byte of a name that comes next: in two digits, behind a backslash, or as it is.
func (r *reader) char() byte {
	if r.take('\\', 'x') {
		return r.digit()<<4 | r.digit()
	}
	r.take('\\')
	return byte(r.next())
}

// digit is some number, too, where no digit stands.
func (r *reader) digit() byte {
	return byte(strings.IndexRune("0123456789abcdef", r.next()))
}
