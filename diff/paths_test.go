package diff_test

import (
	"slices"
	"strings"
	"testing"

	"cadence/api"
	"cadence/diff"
	"cadence/tree"
)

// P1301: Paths.
func TestPaths(t *testing.T) {
	for i, x := range []struct {
		a, b api.Tree
		want []string
	}{
		{nil, nil, nil}, {nil, of("v"), []string{"v"}}, {of("v"), of("v"), nil}, {of("v"), of("w"), []string{"v", "w"}}, {nil, of("a", "b", "c"), []string{"a", "b", "c"}},
		{nil, of("a b c", "a d", "e"), []string{"a", "e"}}, {of("a"), of("a b c", "a d"), []string{"a b", "a d"}}, {of("a b"), of("a b c"), []string{"a b c"}}, {of("a b c"), of("b c"), []string{"a", "b"}},
		{of("k v"), of("k w"), []string{"k v", "k w"}}, {of("k v", "l v"), of("k v", "m v"), []string{"l", "m"}}, {of("s k v", "s l v", "t k v"), of("s k w", "s l v", "u k v"), []string{"s k v", "s k w", "t", "u"}},
		{of("a b", "c d", "e f"), of("a b", "c x", "e f"), []string{"c d", "c x"}}, {of("a x", "b", "c y"), of("a", "b x", "c"), []string{"a x", "b x", "c y"}}, {of("a a a a"), of("a a a"), []string{"a a a a"}}, {of("a a a a"), of("a a b a"), []string{"a a a", "a a b"}},
	} {
		var want [][]string
		for _, p := range x.want {
			want = append(want, strings.Fields(p))
		}
		if got := diff.Paths(x.a, x.b); told(got) != told(want) {
			t.Errorf("P1301: %d: %s, not %s", i, told(got), told(want))
		}
		if got := diff.Paths(x.b, x.a); told(got) != told(want) {
			t.Errorf("P1301: %d, the other way about: %s, not %s", i, told(got), told(want))
		}
	}
}

// P1301: the order is that of the names' bytes, at each depth, whichever tree has them; what is below a name stands together.
func TestOrder(t *testing.T) {
	a := of("b k", "a z", "\xff k", "A k", "a\x01 k", "é", "c")
	b := of("b j", "a y", "aa", "A", "a\x01 k", "\x01", "Z", "c b", "c a")
	want := [][]string{{"\x01"}, {"A", "k"}, {"Z"}, {"a", "y"}, {"a", "z"}, {"aa"}, {"b", "j"}, {"b", "k"}, {"c", "a"}, {"c", "b"}, {"é"}, {"\xff"}}
	if got := diff.Paths(a, b); told(got) != told(want) {
		t.Errorf("P1301: %s, not %s", told(got), told(want))
	}
}

// P1301: names are any bytes, the empty one too; none is another one that it is like.
func TestNames(t *testing.T) {
	long := strings.Repeat("x", 80)
	for i, x := range []struct {
		a, b api.Tree
		want [][]string
	}{
		{nil, api.Tree{e("")}, [][]string{{""}}}, {api.Tree{e("")}, api.Tree{e("", e(""))}, [][]string{{"", ""}}}, {api.Tree{e("", e(""))}, api.Tree{e("", e(""))}, nil}, {api.Tree{e("")}, api.Tree{e("\x00")}, [][]string{{""}, {"\x00"}}},
		{api.Tree{e("a")}, api.Tree{e("A")}, [][]string{{"A"}, {"a"}}}, {api.Tree{e("a")}, api.Tree{e("a ")}, [][]string{{"a"}, {"a "}}}, {api.Tree{e("é")}, api.Tree{e("e\u0301")}, [][]string{{"e\u0301"}, {"é"}}}, {api.Tree{e("\xfe")}, api.Tree{e("\xff")}, [][]string{{"\xfe"}, {"\xff"}}},
		{api.Tree{e(long)}, api.Tree{e(long[1:])}, [][]string{{long[1:]}, {long}}}, {api.Tree{e("a/b")}, api.Tree{e("a", e("b"))}, [][]string{{"a"}, {"a/b"}}}, {api.Tree{e(long[1:]+"a", e("y"))}, api.Tree{e(long[1:]+"b", e("y"))}, [][]string{{long[1:] + "a"}, {long[1:] + "b"}}},
	} {
		if got := diff.Paths(x.a, x.b); told(got) != told(x.want) {
			t.Errorf("P1301: %d: %s, not %s", i, told(got), told(x.want))
		}
	}
}

// P1301: each two small trees, and thrown ones, as the chapter's words say.
func TestEvery(t *testing.T) {
	all := small()
	for _, a := range all {
		for _, b := range all {
			holds(t, a, b)
		}
	}
	d := &die{131}
	met := map[string]int{}
	for range 5000 {
		a, b := d.thrown()
		for _, p := range holds(t, a, b) {
			met[[]string{"none", "root", "second", "third", "fourth"}[len(p)]]++
		}
	}
	for kind, least := range map[string]int{"root": 1000, "second": 1000, "third": 1000, "fourth": 500} {
		if met[kind] < least {
			t.Errorf("P1301: %s: met %d times", kind, met[kind])
		}
	}
}

// holds holds P1301 and P1302 of two trees.
func holds(t *testing.T, a, b api.Tree) [][]string {
	t.Helper()
	got := diff.Paths(a, b)
	fail := func(law string) { t.Fatalf("%s: %s, %s: %s", law, tree.Text(a), tree.Text(b), told(got)) }
	if told(got) != told(plain(a, b)) {
		fail("P1301: not " + told(plain(a, b)))
	}
	if told(diff.Paths(b, a)) != told(got) {
		fail("P1301: the other way about")
	}
	if (len(got) == 0) != (tree.Text(a) == tree.Text(b)) {
		fail("P1302")
	}
	if c := taken(a, b, got); tree.Text(c) != tree.Text(b) {
		fail("P1301, P1302: what is not told differs: " + tree.Text(c))
	}
	for i, p := range got {
		for k, q := range got {
			if diff.Front(p, q) != (i == k) {
				fail("P1301: one is told twice, or what is below it too")
			}
		}
	}
	return got
}

// taken is a, but at the paths what b has there.
func taken(a, b api.Tree, l [][]string) api.Tree {
	for _, p := range l {
		if x, is := tree.Get(b, p); is {
			a = tree.Put(a, p, x)
		} else {
			a = tree.Drop(a, p)
		}
	}
	return a
}

// P1302: none of a tree and itself, or the like of it.
func TestNone(t *testing.T) {
	d := &die{132}
	for range 2000 {
		a, _ := d.thrown()
		b, _ := tree.Get(a, nil)
		if l, m := diff.Paths(a, a), diff.Paths(a, b); len(l) != 0 || len(m) != 0 {
			t.Fatalf("P1302: %s: %s, %s", tree.Text(a), told(l), told(m))
		}
	}
}

// P1302: one edge more, or less, wherever it stands, is told alone.
func TestOneEdge(t *testing.T) {
	d := &die{133}
	for range 300 {
		a, _ := d.thrown()
		for _, p := range every(a) {
			want := told([][]string{p})
			if got := diff.Paths(a, tree.Drop(a, p)); told(got) != want {
				t.Fatalf("P1302: %s: %s, not %s", tree.Text(a), told(got), want)
			}
			below := append(slices.Clone(p), "new")
			if got := diff.Paths(tree.Put(a, below, nil), a); told(got) != told([][]string{below}) {
				t.Fatalf("P1302: %s: %s, not %q alone", tree.Text(a), told(got), below)
			}
		}
	}
}

// P1301: trees as great and as deep as they may be.
func TestGreat(t *testing.T) {
	deep := strings.Fields(strings.Repeat("d ", api.MaxDepth))
	for i, x := range []struct {
		a, b api.Tree
		want [][]string
	}{
		{chain(12, nil), chain(12, nil), nil}, {chain(12, nil), chain(11, nil), [][]string{deep}}, {chain(12, nil), chain(11, of("e")), [][]string{deep, append(slices.Clone(deep[1:]), "e")}}, {chain(12, nil), nil, [][]string{{"d"}}},
		{row(400, "a"), row(400, "a"), nil}, {row(400, "a"), row(399, "a"), [][]string{{"a000399"}}}, {row(400, "a"), row(400, "b"), append(every(row(400, "a")), every(row(400, "b"))...)}, {nil, row(400, "a"), every(row(400, "a"))},
		{chain(11, row(389, "a")), chain(11, row(388, "a")[1:]), [][]string{append(slices.Clone(deep[1:]), "a000000"), append(slices.Clone(deep[1:]), "a000388")}},
	} {
		if tree.Check(x.a) != api.OK || tree.Check(x.b) != api.OK {
			t.Fatalf("%d: not trees", i)
		}
		if got := diff.Paths(x.a, x.b); told(got) != told(x.want) {
			t.Errorf("P1301: %d: %s", i, told(got))
		}
	}
}
