package csv_test

import (
	"maps"
	"math/rand"
	"regexp"
	"slices"
	"strings"

	"cadence/api"
	"cadence/tree"
)

// e is an edge with these below it.
func e(name string, below ...api.Edge) api.Edge { return api.Edge{Name: name, T: below} }

// c is a column's edge, with its value below it.
func c(name, value string) api.Edge { return e(name, e(value)) }

// x is a text of n bytes.
func x(n int) string { return strings.Repeat("x", n) }

// over are all texts of up to n of these bytes.
func over(bytes string, n int) []string {
	l := []string{""}
	for first := 0; n > 0; n-- {
		last := len(l)
		for ; first < last; first++ {
			for i := range len(bytes) {
				l = append(l, l[first]+bytes[i:i+1])
			}
		}
	}
	return l
}

// What follows is the chapter anew, by regular expressions and maps, so that the package is not its own witness.

var (
	fielded = regexp.MustCompile(`^(?s:"((?:[^"]|"")*)"|([^",]*))(,|\z)`)
	ended   = regexp.MustCompile(`(?s)^(.*?)(\r?\n|)$`)
	plain   = regexp.MustCompile(`^[^\r\n]+$`)
)

// cell is a field as it is written, and what it means.
type cell struct{ written, means string }

// plainRow is a line's cells (none, if it is not of fields) and its end.
type plainRow struct {
	cells []cell
	end   string
}

func plainCells(text string) []cell {
	var l []cell
	for more := true; more; {
		m := fielded.FindStringSubmatch(text)
		if m == nil {
			return nil
		}
		l = append(l, cell{strings.TrimSuffix(m[0], m[3]), strings.ReplaceAll(m[1], `""`, `"`) + m[2]})
		text, more = text[len(m[0]):], m[3] == ","
	}
	return l
}

func plainRows(s string) []plainRow {
	var l []plainRow
	for whole := range strings.SplitAfterSeq(s, "\n") {
		if whole == "" {
			continue
		}
		m := ended.FindStringSubmatch(whole)
		r := plainRow{end: m[2]}
		if !strings.Contains(m[1], "\r") {
			r.cells = plainCells(m[1])
		}
		l = append(l, r)
	}
	return l
}

// isPlain tells whether it is a plain name (W5).
func isPlain(s string) bool { return len(s) <= 80 && plain.MatchString(s) }

// table is what a file or a tree says: of each row its columns that are not nothing, with their values.
type table map[string]map[string]string

func (m table) tree() api.Tree {
	var t api.Tree
	for _, name := range slices.Sorted(maps.Keys(m)) {
		var below api.Tree
		for _, column := range slices.Sorted(maps.Keys(m[name])) {
			below = append(below, c(column, m[name][column]))
		}
		t = append(t, api.Edge{Name: name, T: below})
	}
	return t
}

// told is what a tree that fits says.
func told(t api.Tree) table {
	m := table{}
	for _, r := range t {
		m[r.Name] = map[string]string{}
		for _, column := range r.T {
			m[r.Name][column.Name] = column.T[0].Name
		}
	}
	return m
}

// plainLoad is P702's Load.
func plainLoad(s string) (api.Tree, int, api.Errno) {
	switch {
	case len(s) > 4000:
		return nil, 0, api.ErrLong
	case s == "":
		return nil, 0, api.ErrNone
	}
	rows := plainRows(s)
	m, edges := table{}, 0
	for i, r := range rows {
		if e := m.add(rows[0].cells, r.cells, i == 0); e != api.OK {
			return nil, i + 1, e
		}
	}
	for _, row := range m {
		edges += 1 + 2*len(row)
	}
	if edges > 400 {
		return nil, 0, api.ErrMany
	}
	return m.tree(), 0, api.OK
}

// add reads a line by its file's head, if it is not that itself.
func (m table) add(head, l []cell, first bool) api.Errno {
	if len(l) == 0 || len(l) != len(head) {
		return api.ErrLine
	}
	seen, row := map[string]bool{}, map[string]string{}
	for i, x := range l {
		switch {
		case first && i == 0 && x.means != "key", first && i > 0 && (x.means == "key" || !isPlain(x.means)), !first && i == 0 && !isPlain(x.means), len(x.means) > 80:
			return api.ErrLine
		case i > 0 && x.means != "":
			row[head[i].means] = x.means
		}
		seen[x.means] = true
	}
	if first && len(seen) < len(l) || !first && m[l[0].means] != nil {
		return api.ErrTwice
	}
	if !first {
		m[l[0].means] = row
	}
	return api.OK
}

// plainFits is P702's Fits.
func plainFits(t api.Tree) api.Errno {
	if e := tree.Check(t); e != api.OK {
		return e
	}
	for _, r := range t {
		if !isPlain(r.Name) {
			return api.ErrFit
		}
		for _, column := range r.T {
			if column.Name == "key" || !isPlain(column.Name) || len(column.T) != 1 || !isPlain(column.T[0].Name) || len(column.T[0].T) != 0 {
				return api.ErrFit
			}
		}
	}
	return api.OK
}

// anew is a field written anew.
func anew(s string) string {
	if strings.Contains(s, `"`) || strings.Contains(s, ",") {
		return `"` + strings.Join(strings.Split(s, `"`), `""`) + `"`
	}
	return s
}

// plainPut is P703's Put, of a file that may be and a tree that fits.
func plainPut(t api.Tree, s string) (string, api.Errno) {
	rows, want, end := plainRows(s), told(t), "\n"
	if rows[0].end != "" {
		end = rows[0].end
	}
	var columns []string
	has, fresh := map[string]bool{}, map[string]bool{}
	for _, x := range rows[0].cells[1:] {
		columns, has[x.means] = append(columns, x.means), true
	}
	for _, row := range want {
		for column := range row {
			fresh[column] = !has[column]
		}
	}
	maps.DeleteFunc(fresh, func(_ string, is bool) bool { return !is })
	var made []plainRow
	for i, r := range rows {
		name := r.cells[0].means
		if i > 0 && want[name] == nil {
			continue
		}
		text := r.cells[0].written
		for j, x := range r.cells[1:] {
			if i > 0 && want[name][columns[j]] != x.means {
				x.written = anew(want[name][columns[j]])
			}
			text += "," + x.written
		}
		for _, column := range slices.Sorted(maps.Keys(fresh)) {
			value := want[name][column]
			if i == 0 {
				value = column
			}
			text += "," + anew(value)
		}
		made = append(made, plainRow{[]cell{{written: text}}, r.end})
		if i > 0 {
			delete(want, name)
		}
	}
	for _, name := range slices.Sorted(maps.Keys(want)) {
		text := anew(name)
		for _, column := range slices.Concat(columns, slices.Sorted(maps.Keys(fresh))) {
			text += "," + anew(want[name][column])
		}
		made = append(made, plainRow{[]cell{{written: text}}, end})
	}
	return joined(made, end)
}

// joined are the lines of a file that is made, if it is not too long.
func joined(made []plainRow, end string) (string, api.Errno) {
	whole := ""
	for i, r := range made {
		if r.end == "" && i < len(made)-1 {
			r.end = end
		}
		whole += r.cells[0].written + r.end
	}
	if len(whole) > 4000 {
		return "", api.ErrLong
	}
	return whole, api.OK
}

var (
	someColumns = []string{"a", "b", "é", "a,b", `"`, " key", "x"}
	someRows    = []string{"x", "y", "key", "a", `x"y,`, ",", " x ", "\xff"}
	someValues  = []string{"", "", "", "1", "2", " 1", "p,q", `"`, `"",""`, "é\x00", "key"}
)

// randomTree fits, if odd is false; else it may.
func randomTree(r *rand.Rand, odd bool) api.Tree {
	rows, columns, values := someRows, someColumns, someValues
	if odd {
		rows, columns = append([]string{"", "a\n", "\ra"}, rows...), append([]string{"", "key", "b\r", "\n"}, columns...)
		values = append([]string{"\n", "1\r", x(80)}, values...)
	}
	m := table{}
	for range r.Intn(6) {
		row := map[string]string{}
		for range r.Intn(6) {
			if value := values[r.Intn(len(values))]; value != "" {
				row[columns[r.Intn(len(columns))]] = value
			}
		}
		m[rows[r.Intn(len(rows))]] = row
	}
	t := m.tree()
	if odd && r.Intn(4) == 0 {
		path := []string{rows[r.Intn(len(rows))], columns[r.Intn(len(columns))], values[r.Intn(len(values))], "more"}
		t = tree.Put(t, path[:1+r.Intn(4)], nil)
	}
	return t
}

// randomFile is one that may be.
func randomFile(r *rand.Rand) string {
	ends := []string{"\n", "\n", "\r\n"}
	field := func(means string) string {
		if r.Intn(3) == 0 {
			return `"` + strings.ReplaceAll(means, `"`, `""`) + `"`
		}
		return anew(means)
	}
	head := r.Perm(len(someColumns))[:r.Intn(len(someColumns)+1)]
	var s strings.Builder
	s.WriteString(field("key"))
	for _, i := range head {
		s.WriteString("," + field(someColumns[i]))
	}
	for _, i := range r.Perm(len(someRows))[:r.Intn(len(someRows)+1)] {
		s.WriteString(ends[r.Intn(3)] + field(someRows[i]))
		for range head {
			s.WriteString("," + field(someValues[r.Intn(len(someValues))]))
		}
	}
	return s.String() + append(ends, "", "", "")[r.Intn(6)]
}

// spoilt is a file in which a line is there twice, or a piece is put, or is taken out.
func spoilt(r *rand.Rand, s string) string {
	at := r.Intn(len(s))
	to := at + r.Intn(min(len(s)-at, 3)+1)
	l := strings.SplitAfter(s, "\n")
	switch r.Intn(5) {
	case 0:
		return s + "\n" + l[r.Intn(len(l))]
	case 1:
		return s[:at] + s[to:]
	}
	pieces := []string{",", `"`, `""`, "\r", "\n", "a", ",a", "\r\n", "key", "\x00", x(80), x(81)}
	return s[:at] + pieces[r.Intn(len(pieces))] + s[to:]
}
