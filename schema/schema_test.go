package schema_test

import (
	"math"
	"testing"

	"cadence/api"
	"cadence/schema"
	"cadence/tree"
)

// e is an edge with these below it.
func e(name string, below ...api.Edge) api.Edge { return api.Edge{Name: name, T: below} }

func value(name string) api.Tree { return api.Tree{e(name)} }

// house is a schema of several kinds of definitions, all that P402 names.
func house() api.Schema {
	return api.Schema{
		def(need(1, "b", "a"), some(2, "c"), rest(0, "a", "b", "c", "d")),
		{Fields: []api.Field{rest(4)}, One: true},
		{Fields: []api.Field{need(4, "k"), some(1, "m", "l", "m")}, Some: true},
		{Fields: []api.Field{need(3, "x"), rest(4, "x")}, One: true, Some: true},
		{},
		{Fields: []api.Field{some(4, "y"), need(4)}, Some: true},
	}
}

// P402: To.
func TestTo(t *testing.T) {
	for i, x := range []struct {
		def  int
		name string
		want int
	}{
		{0, "a", 1}, {0, "b", 1}, {0, "c", 2}, {0, "d", -1}, {0, "e", 0}, {0, "", 0}, {0, "ab", 0}, {0, "A", 0}, {0, "\xff\x00", 0}, {0, long(80), 0},
		{1, "a", 4}, {1, "", 4}, {2, "k", 4}, {2, "l", 1}, {2, "m", 1}, {2, "a", -1}, {2, "", -1}, {2, "kk", -1}, {3, "x", 3}, {3, "y", 4}, {4, "a", -1}, {4, "", -1}, {5, "y", 4}, {5, "x", -1}, {5, "", -1},
	} {
		if got := schema.To(house(), x.def, x.name); got != x.want {
			t.Errorf("P402: %d: To(%d, %q): %d", i, x.def, x.name, got)
		}
	}
}

// P402: def is none of the numbers.
func TestNoDefinition(t *testing.T) {
	every := api.Schema{def(rest(0)), def(rest(0))}
	for _, s := range []api.Schema{house(), every, append(make(api.Schema, 0, 9), every...), every[:1], make(api.Schema, 12)} {
		for _, def := range []int{-1, -2, len(s), len(s) + 1, 1 << 32, -1 << 32, math.MaxInt, math.MinInt} {
			for _, x := range []api.Tree{nil, {}, value("a"), value("b")} {
				if schema.Level(s, def, x) || schema.Fits(s, def, x) {
					t.Errorf("P402: %d of %d: %s fits", def, len(s), tree.Text(x))
				}
			}
			for _, name := range []string{"", "a"} {
				if got := schema.To(s, def, name); got != -1 {
					t.Errorf("P402: %d of %d: To %q: %d", def, len(s), name, got)
				}
			}
		}
	}
}

// fitted is a tree, whether its level is right, and whether it fits.
type fitted struct {
	def         int
	t           api.Tree
	level, fits bool
}

func fit(t *testing.T, s api.Schema, l []fitted) {
	t.Helper()
	for i, x := range l {
		if got := schema.Level(s, x.def, x.t); got != x.level {
			t.Errorf("P402: %d: Level(%d, %s): %v", i, x.def, tree.Text(x.t), got)
		}
		if got := schema.Fits(s, x.def, x.t); got != x.fits {
			t.Errorf("P402: %d: Fits(%d, %s): %v", i, x.def, tree.Text(x.t), got)
		}
	}
}

// The chapter's example.
func TestExample(t *testing.T) {
	s := api.Schema{{}}
	fit(t, s, []fitted{{0, nil, true, true}, {0, api.Tree{}, true, true}, {0, value("a"), false, false}, {0, value(""), false, false}, {0, api.Tree{e("a", e("b"))}, false, false}})
}

// P402: each edge's name is in a field.
func TestNamed(t *testing.T) {
	s := api.Schema{def(some(0, "c", "a"), some(0, "")), def(rest(1, "c", "a")), def(some(2, "a"), rest(2, "a"))}
	fit(t, s, []fitted{
		{0, nil, true, true}, {0, value("a"), true, true}, {0, value("c"), true, true}, {0, value(""), true, true}, {0, api.Tree{e(""), e("a"), e("c")}, true, true},
		{0, value("b"), false, false}, {0, api.Tree{e("a"), e("b")}, false, false}, {0, api.Tree{e("a"), e("b"), e("c")}, false, false}, {0, api.Tree{e("a"), e("c"), e("d")}, false, false}, {0, value("aa"), false, false}, {0, value("A"), false, false},
		{1, nil, true, true}, {1, value(""), true, true}, {1, api.Tree{e("b"), e("d")}, true, true}, {1, value("a"), false, false}, {1, api.Tree{e("b"), e("c")}, false, false}, {1, api.Tree{e("a"), e("b")}, false, false},
		{2, nil, true, true}, {2, api.Tree{e(""), e("a"), e("b"), e("c")}, true, true}, {2, value(long(80)), true, true},
	})
}

// P402: each name of a field with Need is an edge's.
func TestNeed(t *testing.T) {
	s := api.Schema{def(need(4, "b", "a")), def(need(4, "b", "a", "b"), rest(4, "a", "b")), def(need(4)), def(some(4, "a"), need(4, "b"), need(4, "c")), {}, def(need(4, ""))}
	fit(t, s, []fitted{
		{0, nil, false, false}, {0, value("a"), false, false}, {0, value("b"), false, false}, {0, api.Tree{e("a"), e("b")}, true, true}, {0, api.Tree{e("a"), e("b"), e("c")}, false, false},
		{1, nil, false, false}, {1, api.Tree{e("a"), e("b")}, true, true}, {1, api.Tree{e("a"), e("b"), e("c")}, true, true}, {1, api.Tree{e("a"), e("c")}, false, false}, {1, api.Tree{e("b"), e("c")}, false, false}, {1, value("c"), false, false},
		{2, nil, true, true}, {2, value("a"), false, false},
		{3, nil, false, false}, {3, value("a"), false, false}, {3, value("b"), false, false}, {3, value("c"), false, false}, {3, api.Tree{e("a"), e("b")}, false, false}, {3, api.Tree{e("a"), e("c")}, false, false}, {3, api.Tree{e("b"), e("c")}, true, true}, {3, api.Tree{e("a"), e("b"), e("c")}, true, true},
		{5, nil, false, false}, {5, value(""), true, true}, {5, value("a"), false, false},
	})
	below := api.Tree{e("a", e("b")), e("b")}
	if !schema.Level(s, 0, below) || schema.Fits(s, 0, below) || schema.Level(s, 0, api.Tree{e("a", e("a"), e("b"))}) {
		t.Error("P402: a name that is needed is an edge's of the level, not of one below it")
	}
}

// P402: One, Some.
func TestCounts(t *testing.T) {
	zero, one, two, three := api.Tree(nil), value("a"), api.Tree{e("a"), e("b")}, api.Tree{e("a"), e("b"), e("c")}
	for _, x := range []struct {
		one, some bool
		want      [4]bool
	}{{false, false, [4]bool{true, true, true, true}}, {true, false, [4]bool{false, true, false, false}}, {false, true, [4]bool{false, true, true, true}}, {true, true, [4]bool{false, true, false, false}}} {
		s := api.Schema{{Fields: []api.Field{rest(1)}, One: x.one, Some: x.some}, {}}
		for i, y := range []api.Tree{zero, one, two, three} {
			fit(t, s, []fitted{{0, y, x.want[i], x.want[i]}})
		}
	}
	none := api.Schema{{One: true}, {Some: true}, {Fields: []api.Field{need(0, "a", "b")}, One: true}}
	for def := range none {
		for _, y := range []api.Tree{zero, one, two, three} {
			fit(t, none, []fitted{{def, y, false, false}})
		}
	}
}

// P402: what is below fits the definition that To tells.
func TestFits(t *testing.T) {
	v := value("v")
	a, b := api.Edge{Name: "a", T: v}, api.Edge{Name: "b", T: value("w")}
	fit(t, house(), []fitted{
		{0, nil, false, false}, {0, api.Tree{a}, false, false}, {0, api.Tree{a, b}, true, true}, {0, api.Tree{a, e("b")}, true, false}, {0, api.Tree{e("a"), b}, true, false}, {0, api.Tree{a, e("b", e("v"), e("w"))}, true, false}, {0, api.Tree{a, e("b", e("v", e("w")))}, true, false},
		{0, api.Tree{a, b, e("c")}, true, false}, {0, api.Tree{a, b, e("c", e("k"))}, true, true}, {0, api.Tree{a, b, e("c", e("l", v...))}, true, false}, {0, api.Tree{a, b, e("c", e("k"), e("l", v...), e("m", v...))}, true, true}, {0, api.Tree{a, b, e("c", e("k"), e("l"), e("m", v...))}, true, false}, {0, api.Tree{a, b, e("c", e("k", v...))}, true, false},
		{0, api.Tree{a, b, e("d", v...)}, false, false}, {0, api.Tree{a, b, e("e")}, true, false}, {0, api.Tree{a, b, e("e", a, b)}, true, true}, {0, api.Tree{a, b, e("e", a, b, e("c", e("k")), e("f", a, b))}, true, true}, {0, api.Tree{a, b, e("e", a, b, e("f", a, b, e("g", a)))}, true, false}, {0, api.Tree{a, b, e("e", a, b, e("d"))}, true, false},
		{1, v, true, true}, {1, nil, false, false}, {1, api.Tree{a}, true, false}, {3, value("x"), true, false}, {3, api.Tree{e("x", e("x"))}, true, false}, {3, value("y"), false, false},
		{4, nil, true, true}, {5, value("y"), true, true}, {5, api.Tree{e("y", e("y"))}, true, false}, {5, nil, false, false},
	})
}

// P402: of edges beside each other each one counts, wherever what does not fit stands.
func TestFitsEach(t *testing.T) {
	s := api.Schema{{Fields: []api.Field{rest(1)}}, {Fields: []api.Field{rest(2)}, One: true}, {}}
	for bad := range 5 {
		var x api.Tree
		for i, name := range []string{"a", "b", "c", "d"} {
			if i == bad {
				x = append(x, e(name))
			} else {
				x = append(x, e(name, e("v")))
			}
		}
		fit(t, s, []fitted{{0, x, true, bad == 4}})
	}
}

// P402: trees as deep as trees may be, by a definition that is its own, and by two that take turns.
func TestFitsDeep(t *testing.T) {
	s := api.Schema{def(rest(0)), def(some(2, "odd")), def(some(1, "even"))}
	own := api.Tree(nil)
	for n := range api.MaxDepth {
		own = api.Tree{e("", own...), e("a")}
		turn := turns(n + 1)
		fit(t, s, []fitted{{0, own, true, true}, {0, turn, true, true}, {1 + (n+1)%2, turn, true, true}, {1 + n%2, turn, false, false}})
	}
	for wrong := range api.MaxDepth {
		turn := turns(api.MaxDepth)
		at := turn
		for range wrong {
			at = at[0].T
		}
		at[0].Name = "neither"
		fit(t, s, []fitted{{0, turn, true, true}, {1, turn, wrong > 0, false}})
	}
}

// turns is a tree n deep, odd and even by turns, the deepest one even.
func turns(n int) api.Tree {
	var t api.Tree
	for i := range n {
		t = api.Tree{e([]string{"even", "odd"}[i%2], t...)}
	}
	return t
}
