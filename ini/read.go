package ini

import (
	"slices"
	"strings"

	"cadence/api"
	"cadence/lines"
	"cadence/tree"
)

// part is a section as it stands in a file: from its header on to the next one. A file's first part is what is ahead of all headers; no section has its name, the empty one.
type part struct {
	name string
	rows []row
}

// file is one that was read.
type file struct {
	parts []part
	end   string // how new lines end
	t     api.Tree
}

func read(s string) (file, int, api.Errno) {
	if len(s) > api.MaxFile {
		return file{}, 0, api.ErrLong
	}
	l := lines.Split(s)
	parts, line, e := partsOf(l)
	if e != api.OK {
		return file{}, line, e
	}
	t := treeOf(parts)
	if e := tree.Check(t); e != api.OK {
		return file{}, 0, e
	}
	return file{parts: parts, end: lines.End(l), t: t}, 0, api.OK
}

// partsOf are the parts of lines, or the line, from 1 on, that has a fault.
func partsOf(l []api.Line) ([]part, int, api.Errno) {
	parts := []part{{}}
	for i, x := range l {
		r := rowOf(x)
		if e := fault(parts, r); e != api.OK {
			return nil, i + 1, e
		}
		if r.kind == header {
			parts = append(parts, part{name: r.name})
		}
		last := &parts[len(parts)-1]
		last.rows = append(last.rows, r)
	}
	return parts, 0, api.OK
}

// fault tells what is wrong with a line behind these parts.
func fault(parts []part, r row) api.Errno {
	last := parts[len(parts)-1]
	ofSection := func(p part) bool { return p.name == r.name }
	ofKey := func(x row) bool { return x.kind == key && x.name == r.name }
	switch {
	case r.kind == none || r.kind == key && len(parts) == 1:
		return api.ErrLine
	case r.kind == header && slices.ContainsFunc(parts, ofSection):
		return api.ErrTwice
	case r.kind == key && slices.ContainsFunc(last.rows, ofKey):
		return api.ErrTwice
	}
	return api.OK
}

func treeOf(parts []part) api.Tree {
	var t api.Tree
	for _, p := range parts[1:] {
		t = append(t, api.Edge{Name: p.name, T: keysOf(p.rows)})
	}
	return inOrder(t)
}

func keysOf(rows []row) api.Tree {
	var t api.Tree
	for _, r := range rows {
		if r.kind == key {
			t = append(t, api.Edge{Name: r.name, T: api.Tree{{Name: r.value}}})
		}
	}
	return inOrder(t)
}

// inOrder sorts a tree that nobody else has yet.
func inOrder(t api.Tree) api.Tree {
	slices.SortFunc(t, func(a, b api.Edge) int { return strings.Compare(a.Name, b.Name) })
	return t
}
