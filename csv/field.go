package csv

import "strings"

const quote = `"`

// field is one as it is written in a line, and what it means.
type field struct{ written, means string }

func (f field) meaning() string { return f.means }

// fieldsOf parts a line's text; it has no fields, if it is not of such.
func fieldsOf(text string) []field {
	var l []field
	for {
		n := width(text)
		means, is := unquoted(text[:n])
		if !is {
			return nil
		}
		l = append(l, field{text[:n], means})
		if n == len(text) {
			return l
		}
		text = text[n+len(","):]
	}
}

// width is how many bytes the first field has. A comma is the field's own behind an odd number of quotes: two that mean one do not change that.
func width(text string) int {
	n, within := 0, false
scan:
	for ; n < len(text); n++ {
		switch text[n] {
		case '"':
			within = !within
		case ',':
			if !within {
				break scan
			}
		}
	}
	return n
}

// unquoted is what a field means; false, if none is written so.
func unquoted(written string) (string, bool) {
	inner, opened := strings.CutPrefix(written, quote)
	if !opened {
		return written, !strings.Contains(written, quote)
	}
	inner, shut := strings.CutSuffix(inner, quote)
	if !shut || strings.Contains(strings.ReplaceAll(inner, quote+quote, ""), quote) {
		return "", false
	}
	return strings.ReplaceAll(inner, quote+quote, quote), true
}

// quoted is a field, written anew, that means that.
func quoted(means string) string {
	if !strings.ContainsAny(means, quote+",") {
		return means
	}
	return quote + strings.ReplaceAll(means, quote, quote+quote) + quote
}

// textOf is a line's that means these. A field that was there, and means that already, stays as it is written.
func textOf(means []string, was []field) string {
	l := each(means, quoted)
	for i, x := range was {
		if x.means == means[i] {
			l[i] = x.written
		}
	}
	return strings.Join(l, ",")
}
