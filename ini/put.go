package ini

import (
	"cmp"
	"slices"

	"cadence/api"
	"cadence/lines"
	"cadence/tree"
)

// put is the file of t, that fits.
func (f file) put(t api.Tree) string {
	var l []api.Line
	for _, p := range f.parts {
		l = append(l, p.put(t, f.end)...)
	}
	for _, x := range without(t, f.parts, isOf) {
		l = append(l, api.Line{Text: "[" + x.Name + "]", End: f.end})
		l = append(l, keyLines(x.T, f.end)...)
	}
	for i := range len(l) - 1 {
		l[i].End = cmp.Or(l[i].End, f.end)
	}
	return lines.Join(l)
}

// put are the part's lines that stay, and those of new keys. Where t has no such section there are no keys, so that remarks alone stay.
func (p part) put(t api.Tree, end string) []api.Line {
	keys, is := tree.Get(t, []string{p.name})
	var l []api.Line
	behind := 0
	for _, r := range p.rows {
		x, stays := r.put(keys, is)
		if !stays {
			continue
		}
		l = append(l, x)
		if r.kind != remark {
			behind = len(l)
		}
	}
	return slices.Insert(l, behind, keyLines(without(keys, p.rows, isBy), end)...)
}

// put is the line as it is in a section of these keys; false, if it goes. A header stays if there is such a section.
func (r row) put(keys api.Tree, is bool) (api.Line, bool) {
	switch r.kind {
	case remark:
		return r.line, true
	case header:
		return r.line, is
	}
	value, has := tree.Get(keys, []string{r.name})
	if !has {
		return api.Line{}, false
	}
	return r.with(value[0].Name), true
}

// with is the key's line with another value.
func (r row) with(value string) api.Line {
	text := r.line.Text
	return api.Line{Text: text[:r.at] + value + text[r.at+len(r.value):], End: r.line.End}
}

// keyLines are those of keys that a file has not.
func keyLines(keys api.Tree, end string) []api.Line {
	var l []api.Line
	for _, x := range keys {
		l = append(l, api.Line{Text: x.Name + "=" + x.T[0].Name, End: end})
	}
	return l
}

// isOf tells whether a section of a tree is a part of a file.
func isOf(x api.Edge, p part) bool { return x.Name == p.name }

// isBy tells whether a key of a tree is said by a line.
func isBy(x api.Edge, r row) bool { return r.kind == key && x.Name == r.name }

// without are those that have no partner among others.
func without[A, B any](l []A, others []B, partners func(A, B) bool) []A {
	var left []A
each:
	for _, x := range l {
		for _, y := range others {
			if partners(x, y) {
				continue each
			}
		}
		left = append(left, x)
	}
	return left
}
