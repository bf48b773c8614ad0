package csv

import (
	"strings"

	"cadence/api"
)

// key is what the head's first field means; no column is called so.
const key = "key"

// isValue lets nothing be a value too: a record's field may mean it, where the tree has no such column. A 13 in a line's text is in one of its fields, so that refusing it here refuses the line.
func isValue(s string) bool { return len(s) <= api.MaxName && !strings.ContainsAny(s, "\n\r") }

func isName(s string) bool { return s != "" && isValue(s) }

func isColumn(s string) bool { return isName(s) && s != key }

func fitsRow(x api.Edge) bool { return isName(x.Name) && all(x.T, fitsColumn) }

func fitsColumn(x api.Edge) bool { return isColumn(x.Name) && len(x.T) == 1 && fitsValue(x.T[0]) }

// fitsValue wants what a plain name is: an empty value would be loaded as no column at all.
func fitsValue(x api.Edge) bool { return isName(x.Name) && len(x.T) == 0 }

// all tells whether each one is so.
func all[A any](l []A, is func(A) bool) bool {
	for _, x := range l {
		if !is(x) {
			return false
		}
	}
	return true
}

// each is a new list of what is made of each one.
func each[A, B any](l []A, of func(A) B) []B {
	made := make([]B, len(l))
	for i, x := range l {
		made[i] = of(x)
	}
	return made
}
