package csv

import (
	"slices"

	"cadence/api"
	"cadence/lines"
	"cadence/tree"
)

// put is the file of t, that fits. The head stays whatever t says, so that lines.Insert ends new lines as the file's first one ends.
func (f file) put(t api.Tree) string {
	columns := f.columns()
	columns = slices.Concat(columns, less(columnsOf(t), columns))
	l := []api.Line{f.head.saying(slices.Concat([]string{key}, columns))}
	for _, r := range f.records {
		if below, is := tree.Get(t, []string{r.name()}); is {
			l = append(l, r.saying(record(r.name(), below, columns)))
		}
	}
	var fresh []string
	for _, name := range less(tree.Names(t), each(f.records, row.name)) {
		below, _ := tree.Get(t, []string{name})
		fresh = append(fresh, textOf(record(name, below, columns), nil))
	}
	return lines.Join(lines.Insert(l, len(l), fresh))
}

// columnsOf are those of all rows, in order.
func columnsOf(t api.Tree) []string {
	return tree.Names(each(t, func(x api.Edge) api.Tree { return x.T })...)
}

// less is a list, that nobody else has, without those that are among others.
func less(l, others []string) []string {
	return slices.DeleteFunc(l, func(x string) bool { return slices.Contains(others, x) })
}

// saying is the line of a row that now means these.
func (r row) saying(means []string) api.Line {
	return api.Line{Text: textOf(means, r.fields), End: r.end}
}

// record is what the fields of a row mean, that has this below it.
func record(name string, below api.Tree, columns []string) []string {
	values := each(columns, func(column string) string { return valueAt(below, column) })
	return slices.Concat([]string{name}, values)
}

// valueAt is nothing where there is no such column.
func valueAt(below api.Tree, column string) string {
	value, is := tree.Get(below, []string{column})
	if !is {
		return ""
	}
	return value[0].Name
}
