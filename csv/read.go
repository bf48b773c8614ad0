package csv

import (
	"slices"
	"strings"

	"cadence/api"
	"cadence/lines"
	"cadence/tree"
)

// row is a line: its fields, and how it ends. No line of a file has no fields.
type row struct {
	fields []field
	end    string
}

func (r row) means() []string { return each(r.fields, field.meaning) }

// name is what the first field means.
func (r row) name() string { return r.fields[0].means }

// file is one that was read.
type file struct {
	head    row
	records []row
	t       api.Tree
}

func (f file) columns() []string { return f.head.means()[1:] }

func read(s string) (file, int, api.Errno) {
	if len(s) > api.MaxFile {
		return file{}, 0, api.ErrLong
	}
	rows, line, e := rowsOf(lines.Split(s))
	if e != api.OK {
		return file{}, line, e
	}
	if len(rows) == 0 {
		return file{}, 0, api.ErrNone
	}
	f := file{head: rows[0], records: rows[1:]}
	f.t = treeOf(f.columns(), f.records)
	if e := tree.Check(f.t); e != api.OK {
		return file{}, 0, e
	}
	return f, 0, api.OK
}

// rowsOf are the rows of lines, or the line, from 1 on, that has a fault.
func rowsOf(l []api.Line) ([]row, int, api.Errno) {
	var rows []row
	for i, x := range l {
		r := row{fields: fieldsOf(x.Text), end: x.End}
		if e := fault(rows, r); e != api.OK {
			return nil, i + 1, e
		}
		rows = append(rows, r)
	}
	return rows, 0, api.OK
}

// fault tells what is wrong with a row behind these.
func fault(ahead []row, r row) api.Errno {
	switch {
	case len(r.fields) == 0:
		return api.ErrLine
	case len(ahead) == 0:
		return headFault(r.means())
	case len(r.fields) != len(ahead[0].fields) || !isName(r.name()) || !all(r.means(), isValue):
		return api.ErrLine
	case slices.ContainsFunc(ahead[1:], func(x row) bool { return x.name() == r.name() }):
		return api.ErrTwice
	}
	return api.OK
}

func headFault(means []string) api.Errno {
	columns := means[1:]
	if means[0] != key || !all(columns, isColumn) {
		return api.ErrLine
	}
	for i, x := range columns {
		if slices.Contains(columns[:i], x) {
			return api.ErrTwice
		}
	}
	return api.OK
}

func treeOf(columns []string, records []row) api.Tree {
	return inOrder(each(records, func(r row) api.Edge {
		return api.Edge{Name: r.name(), T: r.below(columns)}
	}))
}

// below is what the record's row has below it.
func (r row) below(columns []string) api.Tree {
	var t api.Tree
	for i, value := range r.means()[1:] {
		if value != "" {
			t = append(t, api.Edge{Name: columns[i], T: api.Tree{{Name: value}}})
		}
	}
	return inOrder(t)
}

// inOrder sorts a tree that nobody else has yet.
func inOrder(t api.Tree) api.Tree {
	slices.SortFunc(t, func(a, b api.Edge) int { return strings.Compare(a.Name, b.Name) })
	return t
}
