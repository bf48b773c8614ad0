package files_test

import (
	"math"
	"strings"
	"testing"

	"cadence/api"
	"cadence/files"
	"cadence/tree"
)

// noForms are numbers of no form.
func noForms() []int {
	return []int{0, -1, -2, -3, -4, 5, 6, 7, 100, 255, 256, 257, 1 << 16, 1<<16 + 1, 1 << 32, 1<<32 + 1, 1<<32 + 4, -1<<32 + 2, math.MinInt, math.MinInt + 1, math.MaxInt, math.MaxInt - 1}
}

// loaded is a file, and what Load must answer of it; text is the tree's.
type loaded struct {
	s, text string
	line    int
	want    api.Errno
}

func load(t *testing.T, kind int, l []loaded) {
	t.Helper()
	for _, x := range l {
		got, line, err := files.Load(kind, x.s)
		if err != x.want || line != x.line || err == api.OK && tree.Text(got) != x.text || err != api.OK && len(got) != 0 {
			t.Errorf("P1001, P4: Load(%d, %.100q): %s, %d, %v, not %s, %d, %v", kind, x.s, tree.Text(got), line, err, x.text, x.line, x.want)
		}
	}
}

// P1001: sections.
func TestLoadIni(t *testing.T) {
	load(t, api.FIni, []loaded{
		{"", "{}", 0, api.OK}, {"\n; r\n#\n", "{}", 0, api.OK}, {"[a]\nk=v\n", `{"a": {"k": {"v": {}}}}`, 0, api.OK}, {" [a]\r\n\tk = v w \r\nl=\r\n[b]", `{"a": {"k": {"v w": {}}, "l": {"": {}}}, "b": {}}`, 0, api.OK},
		{"k=v\n", "", 1, api.ErrLine}, {"[a]\nk", "", 2, api.ErrLine}, {"[a]\n\n[a]\n", "", 3, api.ErrTwice}, {"[a]\nk=1\nk=2\n", "", 3, api.ErrTwice}, {"key,a\nx,1\n", "", 1, api.ErrLine}, {"BEGIN:A\nID:x\nEND:A\n", "", 1, api.ErrLine}, {"<!MARKS>\n<DL>\n</DL>\n", "", 1, api.ErrLine},
		{strings.Repeat("\n", 4000), "{}", 0, api.OK}, {strings.Repeat("\n", 4001), "", 0, api.ErrLong}, {strings.Repeat("x", 4001), "", 0, api.ErrLong},
	})
}

// P1001: rows.
func TestLoadCsv(t *testing.T) {
	load(t, api.FCsv, []loaded{
		{"key\n", "{}", 0, api.OK}, {"key,a\nx,1\n", `{"x": {"a": {"1": {}}}}`, 0, api.OK}, {"key,b,\"a\"\r\nx,,\"1,\"\"\"\r\nw,,", `{"w": {}, "x": {"a": {"1,\"": {}}}}`, 0, api.OK},
		{"", "", 0, api.ErrNone}, {"\n", "", 1, api.ErrLine}, {"key,a\nx\n", "", 2, api.ErrLine}, {"key,a,a\n", "", 1, api.ErrTwice}, {"key,a\nx,1\nx,2\n", "", 3, api.ErrTwice}, {"[a]\nk=v\n", "", 1, api.ErrLine},
		{"key\n" + strings.Repeat("x\n", 1998), "", 3, api.ErrTwice}, {"key\n" + strings.Repeat("x\n", 1999), "", 0, api.ErrLong}, {strings.Repeat("\n", 4001), "", 0, api.ErrLong},
	})
}

// P1001: blocks.
func TestLoadCard(t *testing.T) {
	load(t, api.FCard, []loaded{
		{"", "{}", 0, api.OK}, {" \n", "{}", 0, api.OK}, {"BEGIN:A\nID:x\nEND:A\n", `{"A": {"x": {"blocks": {}, "props": {}}}}`, 0, api.OK}, {"BEGIN:A\r\nN:\\n\r\nID:x\r\nBEGIN:B\r\nID:y\r\nEND:B\r\nEND:A", `{"A": {"x": {"blocks": {"B": {"y": {"blocks": {}, "props": {}}}}, "props": {"N": {"\x0a": {}}}}}}`, 0, api.OK},
		{"N:1\n", "", 1, api.ErrLine}, {"BEGIN:A\nEND:A\n", "", 2, api.ErrLine}, {"BEGIN:A\nID:x\n", "", 2, api.ErrLine}, {"BEGIN:A\nID:x\nID:y\n", "", 3, api.ErrTwice}, {strings.Repeat("BEGIN:A\n", 4), "", 4, api.ErrDeep}, {"[a]\n", "", 1, api.ErrLine}, {"key\n", "", 1, api.ErrLine},
		{strings.Repeat(" ", 4000), "{}", 0, api.OK}, {strings.Repeat(" ", 4001), "", 0, api.ErrLong},
	})
}

// P1001: folders.
func TestLoadMarks(t *testing.T) {
	load(t, api.FMarks, []loaded{
		{"<!MARKS>\n<DL>\n</DL>\n", `{"folders": {}, "links": {}}`, 0, api.OK}, {" <!MARKS>\r\n\r\n<DL>\r\n<A HREF=\"u\">&lt;</A>\r\n<H3>f</H3>\r\n<DL>\r\n</DL>\r\n</DL>", `{"folders": {"f": {"folders": {}, "links": {}}}, "links": {"u": {"<": {}}}}`, 0, api.OK},
		{"", "", 0, api.ErrNone}, {" \n\t\n", "", 0, api.ErrNone}, {"<DL>\n", "", 1, api.ErrLine}, {"<!MARKS>\n<DL>\n", "", 2, api.ErrLine}, {"<!MARKS>\n<DL>\n<A HREF=\"u\">1</A>\n<A HREF=\"u\">2</A>\n", "", 4, api.ErrTwice}, {"<!MARKS>\n" + strings.Repeat("<DL>\n<H3>f</H3>\n", 5), "", 11, api.ErrDeep}, {"key\n", "", 1, api.ErrLine},
		{strings.Repeat("\n", 4000), "", 0, api.ErrNone}, {strings.Repeat("\n", 4001), "", 0, api.ErrLong},
	})
}

// P1001, P4, P6: a number that is no form's, ahead of all that is wrong elsewhere.
func TestNoForm(t *testing.T) {
	var many api.Tree
	for i := range 500 {
		many = append(many, e(strings.Repeat("x", i)))
	}
	for _, kind := range noForms() {
		for _, s := range append(someFiles(), strings.Repeat("\n", 4001)) {
			load(t, kind, []loaded{{s, "", 0, api.ErrKind}})
		}
		for i, x := range append(someTrees(), many) {
			if err := files.Fits(kind, x); err != api.ErrKind {
				t.Errorf("P1001: Fits(%d), tree %d: %v", kind, i, err)
			}
			if s, err := files.Create(kind, x); err != api.ErrKind || s != "" {
				t.Errorf("P1001, P4: Create(%d), tree %d: %q, %v", kind, i, s, err)
			}
			for _, s := range append(someFiles(), strings.Repeat("\n", 4001)) {
				if got, err := files.Put(kind, x, s); err != api.ErrKind || got != "" {
					t.Errorf("P1001, P4: Put(%d, tree %d, %.100q): %q, %v", kind, i, s, got, err)
				}
			}
		}
		if s := files.Schema(kind); len(s) != 0 {
			t.Errorf("P1001: Schema(%d): %v", kind, s)
		}
	}
}
