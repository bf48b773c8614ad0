package diff_test

import (
	"fmt"
	"slices"
	"strings"
	"testing"

	"cadence/api"
	"cadence/diff"
)

// roomy is l with spare room behind it, in which something stands.
func roomy[T any](l []T, spare ...T) []T {
	return append(append(make([]T, 0, len(l)+len(spare)), l...), spare...)[:len(l)]
}

// roomyTree is t with spare room behind each list, in which something stands.
func roomyTree(t api.Tree) api.Tree {
	var l api.Tree
	for _, x := range t {
		l = append(l, e(x.Name, roomyTree(x.T)...))
	}
	return roomy(l, e("spare", e("room")), e("a"))
}

// written is all that a tree's memory holds, its spare room too.
func written(t api.Tree) string {
	var w strings.Builder
	for i, x := range t[:cap(t)] {
		fmt.Fprintf(&w, "%t %q(%s)", i < len(t), x.Name, written(x.T))
	}
	return w.String()
}

// overwrite changes all that stands in a tree's lists, their spare room too.
func overwrite(t api.Tree) {
	for i, x := range t[:cap(t)] {
		overwrite(x.T)
		t[:cap(t)][i] = e("over", e("written"))
	}
}

// shares tells whether two of the paths have memory in common: each is written over wholly, and then looked at again.
func shares(l [][]string) bool {
	for i, p := range l {
		for k := range p[:cap(p)] {
			p[:cap(p)][k] = fmt.Sprint("path ", i)
		}
	}
	for i, p := range l {
		if slices.ContainsFunc(p[:cap(p)], func(name string) bool { return name != fmt.Sprint("path ", i) }) {
			return true
		}
	}
	return false
}

// P2, P3: trees stay as they are, their spare room too, which does not count, and are not kept; the same call answers the same.
func TestTreesHandedIn(t *testing.T) {
	d := &die{134}
	for range 1000 {
		a, b := d.thrown()
		want := told(diff.Paths(a, b))
		a2, b2 := roomyTree(a), roomyTree(b)
		was := written(a2) + written(b2)
		got, again := diff.Paths(a2, b2), diff.Paths(a2, b2)
		if told(got) != want || told(again) != want {
			t.Fatalf("P2, P3: %s, then %s, not %s", told(got), told(again), want)
		}
		if written(a2)+written(b2) != was {
			t.Fatalf("P2: what is handed in is changed: %s", want)
		}
		overwrite(a2)
		overwrite(b2)
		if told(got) != want {
			t.Fatalf("P2: what is handed in is kept: %s, not %s", told(got), want)
		}
	}
}

// P2: an answer is new memory: no two of its paths share any, nor those of two answers, nor the lists of them.
func TestNewMemory(t *testing.T) {
	d := &die{135}
	for range 1000 {
		a, b := d.thrown()
		one, two := diff.Paths(a, b), diff.Paths(a, b)
		want := told(two)
		both := slices.Concat(one, two)
		for i := range one[:cap(one)] {
			one[:cap(one)][i] = []string{"over", "written"}
		}
		if told(two) != want {
			t.Fatalf("P2: two answers' lists share memory: %s", want)
		}
		if shares(both) {
			t.Fatalf("P2: paths share memory: %s", want)
		}
	}
}

// P2: paths that stand beside each other, at each depth, may be put ahead of more names without harm to one another.
func TestSpareRoom(t *testing.T) {
	for deep := range 12 {
		l := diff.Paths(chain(deep, of("a", "b", "c")), chain(deep, of("x", "y", "z")))
		want := told(l)
		for _, p := range l {
			_ = append(p, "more", "names")
		}
		if told(l) != want || len(l) != 6 || shares(l) {
			t.Errorf("P2: %d deep: %s", deep, told(l))
		}
	}
}

// P2: one tree, handed in as two, is as two that are the same; so is one list that stands in a tree twice.
func TestOneTree(t *testing.T) {
	below := of("m x", "n")
	twice := api.Tree{e("a", below...), e("b", below...)}
	if got := diff.Paths(twice, twice); len(got) != 0 {
		t.Errorf("P1302: %s", told(got))
	}
	if got := told(diff.Paths(twice, of("a m x", "b n"))); got != `[["a" "n"] ["b" "m"]]` {
		t.Errorf("P1301: %s", got)
	}
	if got := told(diff.Paths(twice, below)); got != `[["a"] ["b"] ["m"] ["n"]]` {
		t.Errorf("P1301: %s", got)
	}
}

// P2: no list and an empty one are the same.
func TestEmptyLists(t *testing.T) {
	for _, none := range []api.Tree{nil, {}} {
		for _, other := range []api.Tree{nil, {}} {
			a, b := api.Tree{{Name: "a", T: none}}, api.Tree{{Name: "a", T: other}}
			if l, m := diff.Paths(none, other), diff.Paths(a, b); len(l) != 0 || len(m) != 0 {
				t.Errorf("P2, P1302: %s, %s", told(l), told(m))
			}
			if l, m := told(diff.Paths(none, a)), told(diff.Paths(a, of("a b"))); l != `[["a"]]` || m != `[["a" "b"]]` {
				t.Errorf("P2, P1301: %s, %s", l, m)
			}
		}
	}
	for _, p := range [][]string{nil, {}} {
		for _, q := range [][]string{nil, {}} {
			if !diff.Front(p, q) || !diff.Front([]string{"a"}, q) || diff.Front(p, []string{"a"}) {
				t.Error("P2, P1301: Front of nothing")
			}
		}
	}
}

// P2, P3: Front leaves what it is handed; spare room does not count; the same call answers the same.
func TestPathsHandedIn(t *testing.T) {
	l := paths(3)
	for _, p := range l {
		for _, q := range l {
			p2, q2 := roomy(p, "a", "b"), roomy(q, "a", "spare")
			for range 2 {
				if diff.Front(p2, q2) != plainFront(p, q) {
					t.Fatalf("P2, P3: Front(%q, %q)", p, q)
				}
			}
			if told([][]string{p2[:cap(p2)], q2[:cap(q2)]}) != told([][]string{append(slices.Clone(p), "a", "b"), append(slices.Clone(q), "a", "spare")}) {
				t.Fatalf("P2: Front changed %q, %q", p, q)
			}
		}
	}
}

// oddTrees are none, but for the first ones; two have themselves below them, one has one list below it so often that it has more edges than could be gone through.
func oddTrees() []api.Tree {
	loop, ring := of("a", "b"), of("a")
	loop[0].T, loop[1].T = loop, loop
	ring[0].T = api.Tree{e("a", ring...)}
	ring[0].T[0].T = ring
	many := of("a", "b")
	for range 60 {
		many = api.Tree{e("a", many...), e("b", many...)}
	}
	return []api.Tree{nil, of("a b"), {e("b"), e("a")}, {e("a"), e("a")}, {e("a", e("x")), e("a", e("y")), e("a")}, {e("b", e("z"), e("y"), e("z")), e("a")}, of(strings.Repeat("x", 81)), of(strings.Repeat("x", 70000)), chain(13, nil), chain(1000000, nil), chain(1000000, of("a")), row(401, "r"), row(70000, "r"), loop, ring, many}
}

// P1, P8: whatever is handed in, the call ends, and answers the same again.
func TestWhatMayNotBe(t *testing.T) {
	all := oddTrees()
	for i, a := range all {
		for k, b := range all {
			if told(diff.Paths(a, b)) != told(diff.Paths(a, b)) {
				t.Errorf("P3: %d, %d", i, k)
			}
		}
	}
}

// P2, P8: what may not be stays as it is, too.
func TestWhatMayNotBeStays(t *testing.T) {
	all := oddTrees()[:9]
	for i, x := range all {
		for k, y := range all {
			a, b := roomyTree(x), roomyTree(y)
			was := written(a) + written(b)
			got := diff.Paths(a, b)
			if written(a)+written(b) != was {
				t.Errorf("P2: %d, %d: changed", i, k)
			}
			if told(got) != told(diff.Paths(x, y)) || shares(got) {
				t.Errorf("P2, P3: %d, %d: %s", i, k, told(got))
			}
		}
	}
}

// P8: trees of up to 1200 edges are told apart, as what comes of a merge has no more, however deep; of greater ones nothing is told. The document leaves both open.
func TestFarFromTrees(t *testing.T) {
	if got := diff.Paths(row(1200, "r"), row(1199, "r")); told(got) != `[["r001199"]]` {
		t.Errorf("P8: %s", told(got))
	}
	if got := diff.Paths(chain(1199, of("a")), chain(1199, of("b"))); len(got) != 2 || len(got[0]) != 1200 || len(got[1]) != 1200 || shares(got) {
		t.Errorf("P8: %d paths", len(got))
	}
	for i, x := range []api.Tree{row(1201, "r"), chain(1201, nil), oddTrees()[13]} {
		for _, y := range []api.Tree{nil, of("a b"), x} {
			if l, m := diff.Paths(x, y), diff.Paths(y, x); l != nil || m != nil {
				t.Errorf("P8: %d: %s, %s", i, told(l), told(m))
			}
		}
	}
}

// P3, P7: calls side by side do not touch one another.
func TestSideBySide(t *testing.T) {
	a, b := of("k v", "l v", "m n o"), of("k w", "l v", "m n", "z")
	want := told(diff.Paths(a, b))
	done := make(chan string)
	for range 8 {
		go func() {
			if !diff.Front([]string{"a", "b"}, []string{"a"}) {
				done <- "Front"
				return
			}
			done <- told(diff.Paths(a, b))
		}()
	}
	for range 8 {
		if got := <-done; got != want {
			t.Errorf("P3: %s, not %s", got, want)
		}
	}
}
