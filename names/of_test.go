package names_test

import (
	"fmt"
	"slices"
	"strings"
	"testing"

	"cadence/api"
	"cadence/names"
	"cadence/tree"
)

// e is an edge with these below it.
func e(name string, below ...api.Edge) api.Edge { return api.Edge{Name: name, T: below} }

// some is a tree of four edges at its root, with others below two of them.
func some() api.Tree {
	return api.Tree{e(""), e("a", e("1", e("x"))), e("ab", e("a"), e("b")), e("c")}
}

// P301: Of.
func TestOf(t *testing.T) {
	for i, x := range []struct {
		t       api.Tree
		n       api.Names
		in, out string
	}{
		{nil, set("a"), `{}`, `{}`}, {nil, rest("a"), `{}`, `{}`}, {api.Tree{}, rest(), `{}`, `{}`},
		{some(), set(), `{}`, `{"": {}, "a": {"1": {"x": {}}}, "ab": {"a": {}, "b": {}}, "c": {}}`}, {some(), rest(), `{"": {}, "a": {"1": {"x": {}}}, "ab": {"a": {}, "b": {}}, "c": {}}`, `{}`},
		{some(), set("c", "z", "a", "c", "b"), `{"a": {"1": {"x": {}}}, "c": {}}`, `{"": {}, "ab": {"a": {}, "b": {}}}`}, {some(), rest("c", "z", "a", "c"), `{"": {}, "ab": {"a": {}, "b": {}}}`, `{"a": {"1": {"x": {}}}, "c": {}}`},
		{some(), set(""), `{"": {}}`, `{"a": {"1": {"x": {}}}, "ab": {"a": {}, "b": {}}, "c": {}}`}, {some(), rest(""), `{"a": {"1": {"x": {}}}, "ab": {"a": {}, "b": {}}, "c": {}}`, `{"": {}}`},
		{some(), set("1", "x", "b", "A", "abc"), `{}`, `{"": {}, "a": {"1": {"x": {}}}, "ab": {"a": {}, "b": {}}, "c": {}}`}, {some(), set("c", "ab", "a", ""), `{"": {}, "a": {"1": {"x": {}}}, "ab": {"a": {}, "b": {}}, "c": {}}`, `{}`},
	} {
		in, out := names.Of(x.t, x.n)
		if tree.Text(in) != x.in || tree.Text(out) != x.out {
			t.Errorf("P301: %d: Of(%s): %s, %s", i, text(x.n), tree.Text(in), tree.Text(out))
		}
	}
}

// P301: Of every small set: an edge is with those that Has tells, in order, as it was.
func TestOfEvery(t *testing.T) {
	for _, n := range everySet() {
		var in, out api.Tree
		for _, x := range some() {
			if plainHas(n, x.Name) {
				in = append(in, x)
			} else {
				out = append(out, x)
			}
		}
		x, y := names.Of(some(), n)
		if !tree.Same(x, in) || !tree.Same(y, out) {
			t.Errorf("P301: Of(%s): %s, %s", text(n), tree.Text(x), tree.Text(y))
		}
		y2, x2 := names.Of(some(), names.Not(n))
		if !tree.Same(x, x2) || !tree.Same(y, y2) {
			t.Errorf("P302: Of(Not(%s)): %s, %s", text(n), tree.Text(x2), tree.Text(y2))
		}
	}
}

// roomyTree is t with spare room behind each list, in which something stands.
func roomyTree(t api.Tree) api.Tree {
	l := make(api.Tree, 0, len(t)+1)
	for _, x := range t {
		l = append(l, e(x.Name, roomyTree(x.T)...))
	}
	return append(l, e("spare", e("room")))[:len(t)]
}

// rooms is a tree and what stands in its lists' spare room, written out.
func rooms(t api.Tree) string {
	var s strings.Builder
	for i, x := range t[:cap(t)] {
		fmt.Fprint(&s, i < len(t), x.Name, "(", rooms(x.T), ")")
	}
	return s.String()
}

// overwrite changes all that stands in a tree's lists, their spare room too.
func overwrite(t api.Tree) {
	for i, x := range t[:cap(t)] {
		overwrite(x.T)
		t[:cap(t)][i] = e("other")
	}
}

// P2: Of leaves what it is handed, and answers new memory, all the way down.
func TestOfNewMemory(t *testing.T) {
	for _, n := range []api.Names{set(), rest(), set("c", "a"), rest("c", "a"), set("ab"), set("a")} {
		x, m := roomyTree(some()), roomy(n)
		was := rooms(x)
		in, out := names.Of(x, m)
		in2, out2 := names.Of(x, m)
		want, wantOut := tree.Text(in2), tree.Text(out2)
		overwrite(in)
		if tree.Text(out) != wantOut || tree.Text(in2) != want || tree.Text(out2) != wantOut {
			t.Errorf("P2, P3: Of(%s): what is in shares memory", text(n))
		}
		overwrite(out)
		if tree.Text(in2) != want || tree.Text(out2) != wantOut {
			t.Errorf("P2, P3: Of(%s): what is out shares memory", text(n))
		}
		if rooms(x) != was || !untouched(m, n) {
			t.Errorf("P2: Of(%s) changed what it was handed, or answered it", text(n))
		}
		overwrite(x)
		clear(m.L)
		if tree.Text(in2) != want || tree.Text(out2) != wantOut {
			t.Errorf("P2: Of(%s) kept what it was handed", text(n))
		}
	}
}

// P2: a list that stands in a tree twice stands in the answer as two.
func TestOfListTwice(t *testing.T) {
	for _, n := range []api.Names{set(), rest(), set("a"), rest("a")} {
		below := api.Tree{e("m"), e("n")}
		in, out := names.Of(api.Tree{e("a", below...), e("b", below...)}, n)
		for i, x := range slices.Concat(in, out) {
			x.T[0].Name = fmt.Sprint(i)
		}
		for i, x := range slices.Concat(in, out) {
			if x.T[0].Name != fmt.Sprint(i) || below[0].Name != "m" {
				t.Errorf("P2: Of(%s) answers one list twice", text(n))
			}
		}
	}
}

// P1, P2, P8: lists that are no trees, too wide and too deep ones too, end, and are left as they are.
func TestOfNoTrees(t *testing.T) {
	var wide, deep api.Tree
	for i := range 70000 {
		wide = append(wide, e(fmt.Sprint(i)))
	}
	for range 1 << 20 {
		deep = api.Tree{e("d", deep...)}
	}
	for i, x := range []api.Tree{{e("b"), e("a", e("z"), e("y"))}, {e("a"), e("a", e("b"))}, {e(strings.Repeat("x", 70000))}, wide, deep} {
		was := tree.Bytes(x)
		for _, n := range []api.Names{set(), rest(), set("b", "a", "d"), rest("7", "a", "d")} {
			names.Of(x, n)
		}
		if !slices.Equal(tree.Bytes(x), was) {
			t.Errorf("P2: %d: changed", i)
		}
	}
}
