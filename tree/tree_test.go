package tree_test

import (
	"fmt"
	"math/rand"
	"slices"
	"strconv"
	"strings"
	"testing"

	"cadence/api"
	"cadence/tree"
)

// e is an edge with these below it.
func e(name string, below ...api.Edge) api.Edge { return api.Edge{Name: name, T: below} }

// leaves are edges with nothing below, of these names, as they stand here.
func leaves(names ...string) api.Tree {
	var t api.Tree
	for _, name := range names {
		t = append(t, e(name))
	}
	return t
}

// some is a tree that many tests change.
func some() api.Tree {
	return api.Tree{e("a", e("1")), e("c", e("x", e("y"), e("z")), e("xx")), e("d")}
}

const someText = `{"a": {"1": {}}, "c": {"x": {"y": {}, "z": {}}, "xx": {}}, "d": {}}`

// row is n edges beside each other, in order.
func row(n int) api.Tree {
	var t api.Tree
	for i := range n {
		t = append(t, e(fmt.Sprintf("%07d", i)))
	}
	return t
}

// chain is n edges, each below the one ahead; end is below the last one.
func chain(n int, end ...api.Edge) api.Tree {
	t := api.Tree(end)
	for range n {
		t = api.Tree{e("d", t...)}
	}
	return t
}

// random is a tree that Check allows, by r.
func random(r *rand.Rand) api.Tree {
	names := []string{"", "a", "aa", "b", "\x00", "\xff", `"`, `\`, "é", "\n"}
	var t api.Tree
	for range r.Intn(25) {
		var path []string
		for range r.Intn(5) {
			path = append(path, names[r.Intn(len(names))])
		}
		t = plainPut(t, path)
	}
	return t
}

// plainPut makes the edges of the path, where they lack. It is written for the tests, so that the package is not its own witness.
func plainPut(t api.Tree, path []string) api.Tree {
	if len(path) == 0 {
		return t
	}
	for i := range t {
		if t[i].Name == path[0] {
			t[i].T = plainPut(t[i].T, path[1:])
			return t
		}
	}
	t = append(t, e(path[0], plainPut(nil, path[1:])...))
	slices.SortFunc(t, func(a, b api.Edge) int { return strings.Compare(a.Name, b.Name) })
	return t
}

// plain is the tree written out, by Go's own quotes: two trees with one such text are the same.
func plain(t api.Tree) string {
	var s strings.Builder
	s.WriteString("(")
	for _, x := range t {
		s.WriteString(strconv.Quote(x.Name) + plain(x.T))
	}
	return s.String() + ")"
}

// randoms are a fixed lot of trees.
func randoms() []api.Tree {
	r := rand.New(rand.NewSource(7))
	l := []api.Tree{nil, {}, some(), chain(12), row(400), chain(11, row(389)...)}
	for range 200 {
		l = append(l, random(r))
	}
	return l
}

// P201: what Check allows.
func TestCheckOK(t *testing.T) {
	for i, x := range []api.Tree{nil, {}, some(), leaves(""), leaves("", "a"), leaves("a", "aa", "b", "\xff"), leaves("\x00", "\n", "Z", "a", "\x80"),
		leaves(strings.Repeat("x", 80)), chain(12), row(400), chain(11, row(389)...), {e("b", e("a")), e("c", e("a"))}, {e("a", e("z")), e("b", e("a"))}} {
		if e := tree.Check(x); e != api.OK {
			t.Errorf("P201: %d: %v", i, e)
		}
	}
}

// P201: each fault alone, at the edges that the document names.
func TestCheckFaults(t *testing.T) {
	long := strings.Repeat("x", 81)
	for i, x := range []struct {
		t    api.Tree
		want api.Errno
	}{
		{row(401), api.ErrMany}, {chain(11, row(390)...), api.ErrMany}, {append(row(399), e("a", e("b"))), api.ErrMany}, {row(70000), api.ErrMany},
		{chain(13), api.ErrDeep}, {chain(400), api.ErrDeep}, {chain(10, e("a"), e("b", e("c"))), api.OK}, {chain(11, e("a"), e("b", e("c"))), api.ErrDeep},
		{leaves(long), api.ErrLong}, {chain(11, e(long)), api.ErrLong}, {leaves("a", strings.Repeat("é", 41)), api.ErrLong},
		{leaves("b", "a"), api.ErrName}, {leaves("a", "a"), api.ErrName}, {leaves("", ""), api.ErrName}, {leaves("a", "\x80", "b"), api.ErrName},
		{leaves("a", "c", "b"), api.ErrName}, {leaves("aa", "a"), api.ErrName}, {chain(11, leaves("b", "a")...), api.ErrName},
		{api.Tree{e("b", e("c")), e("a")}, api.ErrName}, {api.Tree{e("a", e("b", e("c"))), e("b", e("z", e("d")), e("y"))}, api.ErrName},
	} {
		if e := tree.Check(x.t); e != x.want {
			t.Errorf("P201: %d: %v, not %v", i, e, x.want)
		}
	}
}

// P201: of one edge's faults the first named one; of several edges' the first one's, each ahead of what is below it.
func TestCheckOrder(t *testing.T) {
	long, lower := strings.Repeat("x", 81), strings.Repeat("a", 81)
	for i, x := range []struct {
		t    api.Tree
		want api.Errno
	}{
		{append(row(400), e(long)), api.ErrMany}, {append(row(400), e("")), api.ErrMany}, {chain(11, append(row(387), e("a", e(long)))...), api.ErrDeep}, {chain(11, append(row(388), e("a", e(long)))...), api.ErrMany}, {chain(11, append(row(389), e("a", e(long)))...), api.ErrMany},
		{chain(12, e(long)), api.ErrDeep}, {chain(10, e("b", e("c")), e("a", e(long))), api.ErrName}, {leaves("b", lower), api.ErrLong},
		{append(row(399), e("", leaves("a", "b")...)), api.ErrName},
		{api.Tree{e("b", e(long)), e("a")}, api.ErrLong}, {api.Tree{e("b", e("c")), e("a", e(long))}, api.ErrName}, {api.Tree{e(long, leaves("b", "a")...)}, api.ErrLong},
		{api.Tree{e("a", leaves("c", "b")...), e("b", chain(12)...)}, api.ErrName}, {api.Tree{e("a", chain(12)...), e("b", leaves("c", "b")...)}, api.ErrDeep},
		{append(leaves("b", "a"), row(401)...), api.ErrName}, {append(leaves(long), row(401)...), api.ErrLong},
	} {
		if e := tree.Check(x.t); e != x.want {
			t.Errorf("P201, P6: %d: %v, not %v", i, e, x.want)
		}
	}
}

// P202: Same.
func TestSame(t *testing.T) {
	l := append(randoms(), leaves("a"), leaves("b"), leaves("a", "b"), api.Tree{e("a", e("b"))}, api.Tree{e("a", e("b")), e("c")}, api.Tree{e("a"), e("c", e("b"))}, api.Tree{e("a"), e("c", e("d"))})
	for _, a := range l {
		for _, b := range l {
			if got, want := tree.Same(a, b), plain(a) == plain(b); got != want {
				t.Fatalf("P202: Same of %s, %s: %v", plain(a), plain(b), got)
			}
		}
	}
	if !tree.Same(nil, api.Tree{}) || !tree.Same(api.Tree{{Name: "a", T: api.Tree{}}}, api.Tree{{Name: "a"}}) {
		t.Error("P2: no list and an empty one are not the same")
	}
}

// P202: Get.
func TestGet(t *testing.T) {
	for path, want := range map[string]string{"": someText, "a": `{"1": {}}`, "a/1": "{}", "c": `{"x": {"y": {}, "z": {}}, "xx": {}}`, "c/x": `{"y": {}, "z": {}}`, "c/x/z": "{}", "d": "{}"} {
		got, is := tree.Get(some(), names(path))
		if !is || tree.Text(got) != want {
			t.Errorf("P202: Get of %q: %v, %v", path, got, is)
		}
	}
	for _, path := range []string{"b", "0", "e", "aa", "c/y", "c/x/x", "c/x/z/z", "d/d", "a/1/1/1", "x", "1"} {
		if got, is := tree.Get(some(), names(path)); is || got != nil {
			t.Errorf("P202, P4: Get of %q: %v, %v", path, got, is)
		}
	}
	if got, is := tree.Get(some(), []string{""}); is || got != nil {
		t.Errorf("P202: Get of the empty name: %v, %v", got, is)
	}
	if got, is := tree.Get(nil, nil); !is || len(got) != 0 {
		t.Errorf("P202: Get of nothing, the empty path: %v, %v", got, is)
	}
}

// names are the path's; the empty path has none.
func names(path string) []string {
	if path == "" {
		return nil
	}
	return strings.Split(path, "/")
}

// P202: Put.
func TestPut(t *testing.T) {
	x := leaves("n", "o")
	for path, want := range map[string]string{
		"":          `{"n": {}, "o": {}}`,
		"a":         `{"a": {"n": {}, "o": {}}, "c": {"x": {"y": {}, "z": {}}, "xx": {}}, "d": {}}`,
		"c/x":       `{"a": {"1": {}}, "c": {"x": {"n": {}, "o": {}}, "xx": {}}, "d": {}}`,
		"0":         `{"0": {"n": {}, "o": {}}, "a": {"1": {}}, "c": {"x": {"y": {}, "z": {}}, "xx": {}}, "d": {}}`,
		"b":         `{"a": {"1": {}}, "b": {"n": {}, "o": {}}, "c": {"x": {"y": {}, "z": {}}, "xx": {}}, "d": {}}`,
		"e/f/g":     `{"a": {"1": {}}, "c": {"x": {"y": {}, "z": {}}, "xx": {}}, "d": {}, "e": {"f": {"g": {"n": {}, "o": {}}}}}`,
		"c/w":       `{"a": {"1": {}}, "c": {"w": {"n": {}, "o": {}}, "x": {"y": {}, "z": {}}, "xx": {}}, "d": {}}`,
		"c/xa":      `{"a": {"1": {}}, "c": {"x": {"y": {}, "z": {}}, "xa": {"n": {}, "o": {}}, "xx": {}}, "d": {}}`,
		"c/x/z/z/z": `{"a": {"1": {}}, "c": {"x": {"y": {}, "z": {"z": {"z": {"n": {}, "o": {}}}}}, "xx": {}}, "d": {}}`,
	} {
		got := tree.Put(some(), names(path), x)
		if tree.Text(got) != want {
			t.Errorf("P202: Put at %q: %s", path, tree.Text(got))
		}
		if y, is := tree.Get(got, names(path)); !is || !tree.Same(y, x) || tree.Check(got) != api.OK {
			t.Errorf("P202: what was put at %q: %v, %v", path, y, is)
		}
	}
	if got := tree.Put(some(), []string{"c"}, nil); tree.Text(got) != `{"a": {"1": {}}, "c": {}, "d": {}}` {
		t.Errorf("P202: Put of nothing: %s", tree.Text(got))
	}
	if got := tree.Put(nil, []string{"", ""}, nil); tree.Text(got) != `{"": {"": {}}}` {
		t.Errorf("P202: Put of empty names: %s", tree.Text(got))
	}
	if got := tree.Put(some(), nil, nil); len(got) != 0 {
		t.Errorf("P202: Put of nothing at the empty path: %s", tree.Text(got))
	}
}

// P202: Drop.
func TestDrop(t *testing.T) {
	for path, want := range map[string]string{
		"":      "{}",
		"a":     `{"c": {"x": {"y": {}, "z": {}}, "xx": {}}, "d": {}}`,
		"a/1":   `{"a": {}, "c": {"x": {"y": {}, "z": {}}, "xx": {}}, "d": {}}`,
		"c":     `{"a": {"1": {}}, "d": {}}`,
		"c/x":   `{"a": {"1": {}}, "c": {"xx": {}}, "d": {}}`,
		"c/x/z": `{"a": {"1": {}}, "c": {"x": {"y": {}}, "xx": {}}, "d": {}}`,
		"d":     `{"a": {"1": {}}, "c": {"x": {"y": {}, "z": {}}, "xx": {}}}`,
		"b":     someText, "0": someText, "e": someText, "a/2": someText, "a/1/1": someText, "b/x": someText, "c/x/a/b": someText, "x": someText, "d/d/d": someText,
	} {
		if got := tree.Drop(some(), names(path)); tree.Text(got) != want {
			t.Errorf("P202: Drop of %q: %s", path, tree.Text(got))
		}
	}
	if got := tree.Drop(nil, []string{""}); len(got) != 0 {
		t.Errorf("P202: Drop of nothing: %s", tree.Text(got))
	}
}

// P202: Names, of the roots' edges alone.
func TestNames(t *testing.T) {
	for i, x := range []struct{ got, want []string }{
		{tree.Names(), nil},
		{tree.Names(nil, api.Tree{}), nil},
		{tree.Names(some()), []string{"a", "c", "d"}},
		{tree.Names(some(), some()), []string{"a", "c", "d"}},
		{tree.Names(leaves("b", "\xff"), nil, leaves("", "a", "b", "é"), leaves("B")), []string{"", "B", "a", "b", "é", "\xff"}},
		{tree.Names(leaves("d"), leaves("c"), leaves("b", "c"), leaves("a", "d")), []string{"a", "b", "c", "d"}},
	} {
		if !slices.Equal(x.got, x.want) {
			t.Errorf("P202: %d: %q, not %q", i, x.got, x.want)
		}
	}
}

// P202: Size, Depth.
func TestSizeDepth(t *testing.T) {
	for i, x := range []struct {
		t           api.Tree
		size, depth int
	}{
		{nil, 0, 0}, {api.Tree{}, 0, 0}, {leaves(""), 1, 1}, {some(), 8, 3}, {row(400), 400, 1}, {chain(12), 12, 12},
		{chain(11, row(389)...), 400, 12}, {api.Tree{e("a", e("b", e("c"))), e("d", e("e"))}, 5, 3}, {api.Tree{e("a", e("b")), e("d", e("e", e("f")))}, 5, 3},
	} {
		if n, m := tree.Size(x.t), tree.Depth(x.t); n != x.size || m != x.depth {
			t.Errorf("P202: %d: Size %d, Depth %d, not %d, %d", i, n, m, x.size, x.depth)
		}
	}
}

// P202: names that Check does not allow are names as others are.
func TestLongNames(t *testing.T) {
	long := strings.Repeat("x", 70000)
	x := api.Tree{e(long, e("a")), e(long + "y")}
	if y, is := tree.Get(x, []string{long}); !is || !tree.Same(y, leaves("a")) {
		t.Errorf("P202: Get: %v", is)
	}
	if y := tree.Put(leaves("a"), []string{long, "b"}, nil); !tree.Same(y, api.Tree{e("a"), e(long, e("b"))}) {
		t.Error("P202: Put")
	}
	if y := tree.Drop(x, []string{long}); !tree.Same(y, leaves(long+"y")) {
		t.Error("P202: Drop")
	}
	if tree.Same(x, api.Tree{e(long, e("a")), e(long + "z")}) || tree.Size(x) != 3 || tree.Depth(x) != 2 || len(tree.Names(x)) != 2 {
		t.Error("P202: Same, Size, Depth, Names")
	}
}

// P202: however deep a tree is.
func TestDeep(t *testing.T) {
	const n = 1 << 20
	path := slices.Repeat([]string{"d"}, n)
	x := chain(n)
	if tree.Size(x) != n || tree.Depth(x) != n || !tree.Same(x, chain(n)) || tree.Same(x, chain(n-1)) || tree.Same(x, chain(n-1, e("x"))) {
		t.Error("P202: Size, Depth, Same")
	}
	if y, is := tree.Get(x, path[:n/2]); !is || tree.Depth(y) != n-n/2 {
		t.Error("P202: Get")
	}
	if y, is := tree.Get(x, append(path, "d")); is || y != nil {
		t.Error("P202: Get of too deep an edge")
	}
	if y := tree.Put(nil, path, leaves("a", "b")); tree.Depth(y) != n+1 || tree.Size(y) != n+2 {
		t.Error("P202: Put")
	}
	if y := tree.Drop(x, path); tree.Depth(y) != n-1 {
		t.Error("P202: Drop")
	}
	if tree.Text(x) != strings.Repeat(`{"d": `, n)+"{}"+strings.Repeat("}", n) {
		t.Error("P203: Text")
	}
	if tree.Check(x) != api.ErrDeep {
		t.Error("P201: Check")
	}
	if _, e := tree.Parse(tree.Bytes(x)); e != api.ErrDeep {
		t.Errorf("P1, P203: Bytes, Parse: %v", e)
	}
}

// P1, P2: lists that are no trees end all calls, and are left as they are.
func TestNoTrees(t *testing.T) {
	for i, x := range []api.Tree{leaves("b", "a"), leaves("a", "a"), {e("b", leaves("z", "y", "z")...), e("a"), e("b", e("q"))}, row(70000)} {
		was := plain(x)
		for _, path := range [][]string{nil, {"a"}, {"b"}, {"b", "y"}, {"q", "q"}} {
			tree.Get(x, path)
			tree.Put(x, path, x)
			tree.Drop(x, path)
		}
		tree.Names(x, x)
		tree.Parse(tree.Bytes(x))
		if plain(x) != was || tree.Size(x) == 0 || tree.Depth(x) == 0 || tree.Text(x) == "" || !tree.Same(x, x) {
			t.Errorf("P1, P2: %d", i)
		}
	}
}
