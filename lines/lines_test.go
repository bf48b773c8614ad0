package lines_test

import (
	"fmt"
	"slices"
	"strings"
	"testing"

	"cadence/api"
	"cadence/lines"
)

// line is one, by its Text and its End.
func line(text, end string) api.Line { return api.Line{Text: text, End: end} }

// told is a list written out.
func told(l []api.Line) string { return fmt.Sprintf("%q", l) }

// over are all texts of up to n of these bytes.
func over(bytes string, n int) []string {
	l := []string{""}
	for first := 0; n > 0; n-- {
		last := len(l)
		for ; first < last; first++ {
			for i := range len(bytes) {
				l = append(l, l[first]+bytes[i:i+1])
			}
		}
	}
	return l
}

// plainSplit is P501's Split, anew, so that the package is not its own witness.
func plainSplit(s string) []api.Line {
	var l []api.Line
	for s != "" {
		n := 0
		for n < len(s) && s[n] != 10 {
			n++
		}
		switch {
		case n == len(s):
			return append(l, line(s, ""))
		case n > 0 && s[n-1] == 13:
			l = append(l, line(s[:n-1], "\r\n"))
		default:
			l = append(l, line(s[:n], "\n"))
		}
		s = s[n+1:]
	}
	return l
}

// The chapter's example.
func TestExample(t *testing.T) {
	if got := lines.Split("a"); len(got) != 1 || got[0] != line("a", "") {
		t.Errorf("P501: Split of a: %s", told(got))
	}
}

// P501: Split.
func TestSplit(t *testing.T) {
	for _, x := range []struct {
		s    string
		want []api.Line
	}{
		{"", nil}, {" ", []api.Line{line(" ", "")}}, {"\n", []api.Line{line("", "\n")}}, {"\r\n", []api.Line{line("", "\r\n")}}, {"\r", []api.Line{line("\r", "")}}, {"a\r", []api.Line{line("a\r", "")}},
		{"a\n", []api.Line{line("a", "\n")}}, {"a\r\n", []api.Line{line("a", "\r\n")}}, {"a\nb", []api.Line{line("a", "\n"), line("b", "")}}, {"a\r\nb", []api.Line{line("a", "\r\n"), line("b", "")}}, {"a\r\nb\nc\r\n", []api.Line{line("a", "\r\n"), line("b", "\n"), line("c", "\r\n")}},
		{"\n\n", []api.Line{line("", "\n"), line("", "\n")}}, {"\r\n\n\r\n", []api.Line{line("", "\r\n"), line("", "\n"), line("", "\r\n")}}, {"\n\r", []api.Line{line("", "\n"), line("\r", "")}}, {"\n\r\n", []api.Line{line("", "\n"), line("", "\r\n")}},
		{"a\rb\n", []api.Line{line("a\rb", "\n")}}, {"\r\r\n", []api.Line{line("\r", "\r\n")}}, {"\r\r\r\n\r\r", []api.Line{line("\r\r", "\r\n"), line("\r\r", "")}}, {"\ra\n", []api.Line{line("\ra", "\n")}}, {"a\r \n", []api.Line{line("a\r ", "\n")}},
		{" a\t\n\tb \n", []api.Line{line(" a\t", "\n"), line("\tb ", "\n")}}, {"a\x00\x0b\x0c\u0085\u2028b\xff\xc3\n\xfe", []api.Line{line("a\x00\x0b\x0c\u0085\u2028b\xff\xc3", "\n"), line("\xfe", "")}}, {`a\nb`, []api.Line{line(`a\nb`, "")}},
		{strings.Repeat("x", 70000) + "\r\n" + strings.Repeat("y", 70000), []api.Line{line(strings.Repeat("x", 70000), "\r\n"), line(strings.Repeat("y", 70000), "")}},
	} {
		if got := lines.Split(x.s); !slices.Equal(got, x.want) {
			t.Errorf("P501: Split(%.40q): %.200s", x.s, told(got))
		}
	}
}

// P501, P502: all short texts of what ends lines and what does not.
func TestSplitAll(t *testing.T) {
	for _, s := range over("a\n\r", 9) {
		got := lines.Split(s)
		if want := plainSplit(s); !slices.Equal(got, want) {
			t.Fatalf("P501: Split(%q): %s, not %s", s, told(got), told(want))
		}
		if back := lines.Join(got); back != s {
			t.Fatalf("P502: %q comes back as %q", s, back)
		}
	}
}

// P501, P502: each byte, alone and among those that end lines.
func TestEveryByte(t *testing.T) {
	for n := range 256 {
		c := string([]byte{byte(n)})
		for _, s := range []string{c, c + c, c + "\n", "\n" + c, c + "\r\n" + c, "\r" + c + "\r\n", "x" + c + "y\n" + c + "\r", "\r\n" + c + "\n\r"} {
			got := lines.Split(s)
			if want := plainSplit(s); !slices.Equal(got, want) {
				t.Errorf("P501: Split(%q): %s, not %s", s, told(got), told(want))
			}
			if back := lines.Join(got); back != s {
				t.Errorf("P502: %q comes back as %q", s, back)
			}
		}
	}
}

// P501, P502: many lines.
func TestMany(t *testing.T) {
	s := strings.Repeat("ab\r\n\nc\r\r\n", 100000) + "end"
	l := lines.Split(s)
	if len(l) != 300001 || l[299997] != line("ab", "\r\n") || l[299998] != line("", "\n") || l[299999] != line("c\r", "\r\n") || l[300000] != line("end", "") {
		t.Errorf("P501: %d lines, the last ones %s", len(l), told(l[max(len(l)-4, 0):]))
	}
	if lines.Join(l) != s {
		t.Error("P502: many lines do not come back")
	}
}

// P501: Join is of any lines, those that Split never tells, too.
func TestJoin(t *testing.T) {
	for _, x := range []struct {
		l    []api.Line
		want string
	}{
		{nil, ""}, {[]api.Line{}, ""}, {[]api.Line{{}}, ""}, {[]api.Line{{}, {}, {}}, ""}, {[]api.Line{line("a", "")}, "a"}, {[]api.Line{line("", "\n")}, "\n"}, {[]api.Line{line("a", "\r\n")}, "a\r\n"},
		{[]api.Line{line("a", ""), line("b", ""), line("", ""), line("c", "\n")}, "abc\n"}, {[]api.Line{line("a", "\n"), line("b", "\r\n"), line("c", "")}, "a\nb\r\nc"}, {[]api.Line{line("a\nb\r", "\n"), line("\r\n", "\r\n")}, "a\nb\r\n\r\n\r\n"}, {[]api.Line{line("\xff", "\n"), line("\x00 \t", "")}, "\xff\n\x00 \t"},
	} {
		if got := lines.Join(x.l); got != x.want {
			t.Errorf("P501: Join(%s): %q", told(x.l), got)
		}
	}
}

// P501: End is the first line's, whatever the others have.
func TestEnd(t *testing.T) {
	for _, x := range []struct {
		l    []api.Line
		want string
	}{
		{nil, "\n"}, {[]api.Line{}, "\n"}, {[]api.Line{{}}, "\n"}, {[]api.Line{line("a", "")}, "\n"}, {[]api.Line{line("a", "\n")}, "\n"}, {[]api.Line{line("a", "\r\n")}, "\r\n"}, {[]api.Line{line("", "\r\n")}, "\r\n"},
		{[]api.Line{line("a", "\n"), line("b", "\r\n")}, "\n"}, {[]api.Line{line("a", "\r\n"), line("b", "\n")}, "\r\n"}, {[]api.Line{line("a", ""), line("b", "\r\n")}, "\n"}, {[]api.Line{line("a", "\r\n"), line("b", "")}, "\r\n"}, {[]api.Line{line("a\r\n", ""), line("b\r\n", "\r\n")}, "\n"},
	} {
		if got := lines.End(x.l); got != x.want {
			t.Errorf("P501: End(%s): %q", told(x.l), got)
		}
	}
}
