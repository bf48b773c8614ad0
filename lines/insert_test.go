package lines_test

import (
	"math"
	"slices"
	"strings"
	"testing"

	"cadence/api"
	"cadence/lines"
)

// P501: Insert.
func TestInsert(t *testing.T) {
	for i, x := range []struct {
		s     string
		at    int
		texts []string
		want  string
	}{
		{"", 0, nil, ""}, {"", 0, []string{}, ""}, {"", 5, nil, ""}, {"", -5, nil, ""}, {"", 0, []string{"x"}, "x\n"}, {"", 3, []string{"x", "y"}, "x\ny\n"}, {"", -3, []string{""}, "\n"},
		{"a\nb\nc\n", 0, []string{"x", "y"}, "x\ny\na\nb\nc\n"}, {"a\nb\nc\n", 1, []string{"x", "y"}, "a\nx\ny\nb\nc\n"}, {"a\nb\nc\n", 2, []string{"x", "y"}, "a\nb\nx\ny\nc\n"}, {"a\nb\nc\n", 3, []string{"x", "y"}, "a\nb\nc\nx\ny\n"},
		{"a\nb\nc\n", 4, []string{"x"}, "a\nb\nc\nx\n"}, {"a\nb\nc\n", math.MaxInt, []string{"x"}, "a\nb\nc\nx\n"}, {"a\nb\nc\n", -1, []string{"x"}, "x\na\nb\nc\n"}, {"a\nb\nc\n", math.MinInt, []string{"x"}, "x\na\nb\nc\n"},
		{"a", 0, []string{"x"}, "x\na"}, {"a", 1, []string{"x"}, "a\nx\n"}, {"a", 1, nil, "a"}, {"a", 0, nil, "a"}, {"a\n", 1, nil, "a\n"},
		{"a\r\nb\nc", 0, []string{"x"}, "x\r\na\r\nb\nc"}, {"a\r\nb\nc", 2, []string{"x"}, "a\r\nb\nx\r\nc"}, {"a\r\nb\nc", 3, []string{"x", "y"}, "a\r\nb\nc\r\nx\r\ny\r\n"}, {"a\nb\r\nc", 3, []string{"x"}, "a\nb\r\nc\nx\n"}, {"\r\na", 2, []string{""}, "\r\na\r\n\r\n"},
		{"a\nb", 1, []string{"", " x\t", "\r", "é\xff"}, "a\n\n x\t\n\r\né\xff\nb"}, {"a\n", 1, []string{strings.Repeat("x", 70000)}, "a\n" + strings.Repeat("x", 70000) + "\n"},
	} {
		if got := lines.Join(lines.Insert(lines.Split(x.s), x.at, x.texts)); got != x.want {
			t.Errorf("P501: %d: %.60q, %d: %.200q", i, x.s, x.at, got)
		}
	}
}

// P501: of what is handed in without an End only what is the last line then may stay so, though nothing is new.
func TestInsertEnds(t *testing.T) {
	for i, x := range []struct {
		l, want []api.Line
		at      int
		texts   []string
	}{
		{[]api.Line{{}}, []api.Line{{}}, 0, nil}, {[]api.Line{{}, {}}, []api.Line{line("", "\n"), {}}, 0, nil},
		{[]api.Line{line("a", ""), line("b", "")}, []api.Line{line("a", "\n"), line("b", "")}, 2, nil},
		{[]api.Line{line("a", "\r\n"), line("b", ""), line("c", ""), line("d", "\n")}, []api.Line{line("a", "\r\n"), line("b", "\r\n"), line("c", "\r\n"), line("d", "\n")}, 0, []string{}},
		{[]api.Line{line("a", ""), line("b", "\r\n"), line("c", "")}, []api.Line{line("a", "\n"), line("b", "\r\n"), line("x", "\n"), line("c", "")}, 2, []string{"x"}},
		{[]api.Line{line("a", ""), line("b", "\r\n")}, []api.Line{line("x", "\n"), line("a", "\n"), line("b", "\r\n")}, 0, []string{"x"}},
		{[]api.Line{line("a", "\r\n"), line("b", "")}, []api.Line{line("a", "\r\n"), line("b", "\r\n"), line("x", "\r\n"), line("y", "\r\n")}, 2, []string{"x", "y"}},
	} {
		if got := lines.Insert(x.l, x.at, x.texts); !slices.Equal(got, x.want) {
			t.Errorf("P501: %d: %s", i, told(got))
		}
	}
}

// plainInsert is P501's Insert, anew: line by line, the places counted.
func plainInsert(l []api.Line, at int, texts []string) []api.Line {
	end := "\n"
	if len(l) > 0 && l[0].End != "" {
		end = l[0].End
	}
	var all []api.Line
	for i := range len(l) + 1 {
		if i == at || i == 0 && at < 0 || i == len(l) && at > i {
			for _, s := range texts {
				all = append(all, line(s, end))
			}
		}
		if i < len(l) {
			all = append(all, l[i])
		}
	}
	for i := range all {
		if all[i].End == "" && i < len(all)-1 {
			all[i].End = end
		}
	}
	return all
}

// lists are all lists of up to n lines, whose Ends are of each kind, and whose Texts tell their places.
func lists(n int) [][]api.Line {
	l := [][]api.Line{nil}
	for first := 0; n > 0; n-- {
		last := len(l)
		for ; first < last; first++ {
			for _, end := range []string{"", "\n", "\r\n"} {
				l = append(l, append(slices.Clone(l[first]), line(strings.Repeat("a", len(l[first])), end)))
			}
		}
	}
	return l
}

// P501: all short lists, at all places, and beyond them.
func TestInsertAll(t *testing.T) {
	for _, l := range lists(5) {
		for at := -2; at < len(l)+3; at++ {
			for _, texts := range [][]string{nil, {""}, {"x"}, {"x", ""}, {"z", "y", "x"}} {
				if got, want := lines.Insert(l, at, texts), plainInsert(l, at, texts); !slices.Equal(got, want) {
					t.Fatalf("P501: Insert(%s, %d, %q): %s, not %s", told(l), at, texts, told(got), told(want))
				}
			}
		}
	}
}

// P501: many lines among many.
func TestInsertMany(t *testing.T) {
	old := strings.Repeat("a\r\n", 200000)
	got := lines.Insert(lines.Split(old+"b"), 200001, strings.Split(strings.Repeat("x,", 199999)+"y", ","))
	if lines.Join(got) != old+"b\r\n"+strings.Repeat("x\r\n", 199999)+"y\r\n" {
		t.Errorf("P501: %d lines", len(got))
	}
}
