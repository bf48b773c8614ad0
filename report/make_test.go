package report_test

import (
	"fmt"
	"regexp"
	"strings"

	"cadence/api"
)

// told is names, written so that two lists that are told alike are the same; no list and an empty one are.
func told(p []string) string { return fmt.Sprintf("%q", p) }

// plainQuoted is what chapter 2 says of a name, quoted, anew: no call of the project is asked, so none is its own witness.
func plainQuoted(name string) string {
	s := ""
	for _, c := range []byte(name) {
		switch {
		case c == '"':
			s += `\"`
		case c == '\\':
			s += `\\`
		case c < 32 || c > 126:
			s += fmt.Sprintf(`\x%02x`, c)
		default:
			s += string(rune(c))
		}
	}
	return `"` + s + `"`
}

// plainPath is what P1401 says of Path, anew.
func plainPath(p []string) string {
	s := ""
	for _, name := range p {
		s += "/" + plainQuoted(name)
	}
	if s == "" {
		return "/"
	}
	return s
}

// plainText is what P1401 says of Text, anew.
func plainText(l []api.Conflict) string {
	s := ""
	for _, c := range l {
		word := map[int]string{api.KGone: "gone", api.KShape: "shape"}[c.Kind]
		if word == "" {
			word = "what"
		}
		s += word + " " + plainPath(c.Path) + "\n"
	}
	return s
}

// isPath tells of any text whether it is a path's, by what may stand in one; it is asked of bytes, not of runes, so each stands as a rune of its number.
func isPath(s string) bool {
	runes := make([]rune, len(s))
	for i := range len(s) {
		runes[i] = rune(s[i])
	}
	return pathForm.MatchString(string(runes))
}

// pathForm: a byte stands as it is, behind a backslash, or as two digits, and each in one of these ways only.
var pathForm = regexp.MustCompile(`\A(/|(/"([ !#-\[\]-~]|\\"|\\\\|\\x([01][0-9a-f]|7f|[89a-f][0-9a-f]))*")+)\z`)

// die throws.
type die struct{ n uint64 }

func (d *die) of(k int) int {
	d.n = d.n*6364136223846793005 + 1442695040888963407
	return int(d.n>>33) % k
}

// name is one of any bytes, or, more often, of those that mean something in a path's text.
func (d *die) name() string {
	const odd = "/\"\\xX0aAfF7\n\r\t {}:,\x00\x1f\x7f\x80\xc3\xa9\xff"
	var b []byte
	for range d.of(7) {
		if d.of(3) == 0 {
			b = append(b, byte(d.of(256)))
		} else {
			b = append(b, odd[d.of(len(odd))])
		}
	}
	return string(b)
}

func (d *die) path() []string {
	var p []string
	for range d.of(5) {
		p = append(p, d.name())
	}
	return p
}

func (d *die) conflicts() []api.Conflict {
	var l []api.Conflict
	for range d.of(5) {
		l = append(l, api.Conflict{Path: d.path(), Kind: d.of(5) - 1})
	}
	return l
}

// changed is s with a byte gone, changed, twice or new.
func (d *die) changed(s string) string {
	const few = "/\"\\x0aAf7\n z\xff"
	i, c := d.of(len(s)), string(few[d.of(len(few))])
	switch d.of(5) {
	case 0:
		return s[:i] + s[i+1:]
	case 1:
		return s[:i] + s[i:i+1] + s[i:]
	case 2:
		return s[:i] + c + s[i:]
	case 3:
		return s + c
	}
	return s[:i] + c + s[i+1:]
}

// long is a path of one name that is so many bytes as text, each of which takes one byte.
func long(n int) string { return `/"` + strings.Repeat("a", n-3) + `"` }
