package report_test

import (
	"math"
	"slices"
	"strings"
	"testing"

	"cadence/api"
	"cadence/merge"
	"cadence/report"
	"cadence/tree"
)

// at is a conflict there.
func at(kind int, path ...string) api.Conflict { return api.Conflict{Path: path, Kind: kind} }

// P1401: Text.
func TestText(t *testing.T) {
	for i, x := range []struct {
		l    []api.Conflict
		want string
	}{
		{nil, ""}, {[]api.Conflict{}, ""}, {[]api.Conflict{at(api.KGone)}, "gone /\n"}, {[]api.Conflict{at(api.KShape, "a", "b")}, "shape /\"a\"/\"b\"\n"}, {[]api.Conflict{{}}, "what /\n"}, {[]api.Conflict{{Path: []string{}, Kind: api.KShape}}, "shape /\n"},
		{[]api.Conflict{at(api.KShape, "b"), at(api.KGone, "a"), at(7, "c"), at(api.KGone, "a")}, "shape /\"b\"\ngone /\"a\"\nwhat /\"c\"\ngone /\"a\"\n"},
		{[]api.Conflict{at(api.KGone, "a\nb", ""), at(api.KGone, " ")}, "gone /\"a\\x0ab\"/\"\"\ngone /\" \"\n"},
	} {
		if got := report.Text(x.l); got != x.want {
			t.Errorf("P1401: %d: %q, not %q", i, got, x.want)
		}
		if plainText(x.l) != x.want {
			t.Errorf("%d: the test's own", i)
		}
	}
}

// P1401: a kind that is none is what, however it may be counted (P9 holds not here).
func TestTextKinds(t *testing.T) {
	for _, kind := range []int{math.MinInt, -1 << 32, -256, -2, -1, 0, 3, 4, 255, 256, 257, 258, 1<<32 + 1, 1<<32 + 2, math.MaxInt} {
		if got := report.Text([]api.Conflict{at(kind, "a")}); got != "what /\"a\"\n" {
			t.Errorf("P1401: %d: %q", kind, got)
		}
	}
}

// P1401: whatever conflicts; a line of each, whose path can be read again (P1402).
func TestTextThrown(t *testing.T) {
	d := &die{145}
	for range 5000 {
		l := d.conflicts()
		got := report.Text(l)
		if got != plainText(l) {
			t.Fatalf("P1401: %v: %q", l, got)
		}
		lines := strings.SplitAfter(got, "\n")
		if len(lines) != len(l)+1 || lines[len(l)] != "" {
			t.Fatalf("P1401: %v: %d lines", l, len(lines)-1)
		}
		for i, c := range l {
			_, path, _ := strings.Cut(strings.TrimSuffix(lines[i], "\n"), " ")
			if p, e := report.ParsePath(path); e != api.OK || told(p) != told(c.Path) {
				t.Fatalf("P1402: %q: %q, %v", c.Path, p, e)
			}
		}
	}
}

// P1401, P1: conflicts as many as may be, and paths as long.
func TestTextGreat(t *testing.T) {
	if report.Text(slices.Repeat([]api.Conflict{at(api.KGone, "a")}, 100000)) != strings.Repeat("gone /\"a\"\n", 100000) {
		t.Error("P1401: many conflicts")
	}
	name := strings.Repeat("x", 100000)
	if report.Text([]api.Conflict{at(api.KShape, name, name)}) != `shape /"`+name+`"/"`+name+"\"\n" {
		t.Error("P1401: long names")
	}
}

// P1401: the conflicts of a merge.
func TestTextOfMerge(t *testing.T) {
	s := api.Schema{{Fields: []api.Field{{N: api.Names{All: true}, To: 1}}}, {Fields: []api.Field{{N: api.Names{All: true}, To: 2}}, One: true}, {}}
	opt := func(s string) merge.Opt {
		var x api.Tree
		for _, p := range strings.Fields(s) {
			x = tree.Put(x, strings.Split(p, "="), nil)
		}
		return merge.Opt{Is: true, T: x}
	}
	_, _, _, l := merge.Merge(s, opt("k=1 m=1"), opt("k=2"), opt("k=3 m=2"))
	if got := report.Text(l); got != "shape /\"k\"\ngone /\"m\"\n" {
		t.Errorf("P1401: %q", got)
	}
	_, _, _, l = merge.Merge(s, opt("k=1"), opt("k=2"), merge.Opt{})
	if got := report.Text(l); got != "gone /\n" {
		t.Errorf("P1401: %q", got)
	}
}
