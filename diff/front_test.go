package diff_test

import (
	"slices"
	"strings"
	"testing"

	"cadence/diff"
)

// P1301: Front.
func TestFront(t *testing.T) {
	path := strings.Fields
	for i, x := range []struct {
		p, q []string
		want bool
	}{
		{nil, nil, true}, {path("a"), nil, true}, {nil, path("a"), false}, {path("a"), path("a"), true}, {path("a"), path("b"), false}, {path("a b c"), path("a b"), true}, {path("a b"), path("a b c"), false}, {path("a b c"), path("a c"), false}, {path("a b c"), path("b c"), false}, {path("a b c"), path("b"), false},
		{path("a b c"), path("b a"), false}, {path("a b c"), path("a b c"), true}, {path("a b x"), path("a b c"), false}, {path("x b c"), path("a b c"), false}, {path("a a"), path("a a"), true}, {path("a"), path("a a"), false}, {path("a a a"), path("a a"), true},
		{path("ab"), path("a"), false}, {path("a"), path("ab"), false}, {path("a b"), path("ab"), false}, {path("ab"), path("a b"), false}, {path("ab c"), path("a b"), false}, {path("A"), path("a"), false},
		{nil, []string{""}, false}, {[]string{""}, nil, true}, {[]string{""}, []string{""}, true}, {[]string{"", "a"}, []string{"a"}, false}, {[]string{"a"}, []string{"a", ""}, false}, {[]string{"a", ""}, []string{"a"}, true}, {[]string{"a\x00b"}, []string{"a"}, false}, {[]string{"\xff", "b"}, []string{"\xff"}, true}, {[]string{"\xfe"}, []string{"\xff"}, false},
	} {
		if got := diff.Front(x.p, x.q); got != x.want {
			t.Errorf("P1301: Front(%q, %q): %t", x.p, x.q, got)
		}
		if x.want != plainFront(x.p, x.q) {
			t.Errorf("%d: the test's own", i)
		}
	}
}

// paths are all of at most so many names of a few.
func paths(most int) [][]string {
	l := [][]string{nil}
	for from := 0; most > 0; most-- {
		to := len(l)
		for _, p := range l[from:to] {
			for _, name := range []string{"", "a", "b", "ab"} {
				l = append(l, append(slices.Clone(p), name))
			}
		}
		from = to
	}
	return l
}

// P1301: each two short paths; what is put behind a path begins with it.
func TestFrontEvery(t *testing.T) {
	l := paths(4)
	for _, p := range l {
		for _, q := range l {
			if got := diff.Front(p, q); got != plainFront(p, q) {
				t.Fatalf("P1301: Front(%q, %q): %t", p, q, got)
			}
			if !diff.Front(slices.Concat(q, p), q) {
				t.Fatalf("P1301: %q behind %q", p, q)
			}
		}
	}
}

// P1301: paths of any length, of names of any length.
func TestFrontLong(t *testing.T) {
	long := strings.Split(strings.Repeat("a ", 100000), " ")
	great := strings.Repeat("x", 100000)
	other := slices.Clone(long)
	other[99999] = "b"
	for i, x := range []struct {
		p, q []string
		want bool
	}{{long, long, true}, {long, long[:99999], true}, {long[:99999], long, false}, {long, other, false}, {long, other[:99999], true}, {other, long[:99999], true}, {[]string{great + "a"}, []string{great + "a"}, true}, {[]string{great + "a"}, []string{great + "b"}, false}, {[]string{great + "a"}, []string{great}, false}} {
		if diff.Front(x.p, x.q) != x.want {
			t.Errorf("P1301: %d", i)
		}
	}
}
