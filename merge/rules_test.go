package merge_test

import (
	"strings"
	"testing"

	"cadence/api"
	"cadence/files"
	"cadence/merge"
)

// rule is what is handed in, and what must come of it.
type rule struct {
	s       api.Schema
	o, a, b merge.Opt
	want    answer
}

// settled is the answer where all three are one, without conflicts.
func settled(x merge.Opt) answer { return answer{x, x, x, nil} }

// at is a conflict, its path's names with blanks between.
func at(kind int, path string) api.Conflict {
	return api.Conflict{Path: strings.Fields(path), Kind: kind}
}

func gone(path string) api.Conflict { return at(api.KGone, path) }

func shape(path string) api.Conflict { return at(api.KShape, path) }

// hold holds each row, and, by P1202, each with a and b the other way about, and merged again.
func hold(t *testing.T, l []rule) {
	t.Helper()
	for i, x := range l {
		if !fits(x.s, x.a) || !fits(x.s, x.b) {
			t.Fatalf("%d: may not be handed in", i)
		}
		got, want := call(x.s, x.o, x.a, x.b), x.want.String()
		if got.String() != want {
			t.Errorf("P1201: %d: %v, not %s", i, got, want)
			continue
		}
		if other := call(x.s, x.o, x.b, x.a).swapped().String(); other != want {
			t.Errorf("P1202: %d: the other way about: %s, not %s", i, other, want)
		}
		if again := call(x.s, got.o, got.a, got.b).String(); again != want {
			t.Errorf("T3: %d: merged again: %s, not %s", i, again, want)
		}
	}
}

// P1201: its rules 1 to 3, at the root.
func TestRoot(t *testing.T) {
	s := free()
	l := []rule{
		{s, none(), none(), none(), settled(none())}, {s, is(), none(), none(), settled(none())}, {s, is("a"), none(), none(), settled(none())},
		{s, none(), is(), is(), settled(is())}, {s, none(), is("a b"), is("a b"), settled(is("a b"))}, {s, is("a"), is("b"), is("b"), settled(is("b"))}, {s, is("b"), is("b"), is("b"), settled(is("b"))}, {s, is("a b"), is(), is(), settled(is())},
		{s, none(), none(), is(), settled(is())}, {s, none(), none(), is("a b", "c"), settled(is("a b", "c"))},
		{s, is(), is(), none(), settled(none())}, {s, is("a"), is("a"), none(), settled(none())}, {s, is("a"), is("a"), is("b"), settled(is("b"))}, {s, is("a", "b"), is("a", "b"), is(), settled(is())}, {s, is(), is(), is("a b"), settled(is("a b"))}, {s, is("a b"), is("a b"), is("a c"), settled(is("a c"))},
	}
	hold(t, l)
}

// P1201: its rule 4, at the root, and a tree without edges is not nothing.
func TestRootGone(t *testing.T) {
	s, root := free(), []api.Conflict{gone("")}
	hold(t, []rule{
		{s, is("a"), none(), is("b"), answer{is("a"), none(), is("b"), root}}, {s, is("a"), none(), is(), answer{is("a"), none(), is(), root}}, {s, is(), none(), is("a"), answer{is(), none(), is("a"), root}}, {s, is("a b"), none(), is("a"), answer{is("a b"), none(), is("a"), root}},
		{s, none(), is(), is("a"), settled(is("a"))}, {s, none(), is("a"), is("b"), settled(is("a", "b"))},
	})
}

// P1201: name by name, below the root, at any depth.
func TestByName(t *testing.T) {
	s := free()
	hold(t, []rule{
		{s, is("a"), is("a", "b"), is("a", "c"), settled(is("a", "b", "c"))}, {s, is("a", "b"), is("a"), is("b"), settled(is())}, {s, is("a", "b"), is("a", "c"), is("b", "d"), settled(is("c", "d"))}, {s, is("m"), is("a", "m", "z"), is("b", "m", "y"), settled(is("a", "b", "m", "y", "z"))},
		{s, is("a b"), is("a b", "a c"), is("a"), settled(is("a c"))}, {s, is("a b c"), is("a b c d"), is("a b c", "a e"), settled(is("a b c d", "a e"))}, {s, is("a b", "c d"), is("a b e", "c d"), is("a b", "c"), settled(is("a b e", "c"))},
		{s, is("a"), is("a b"), is(), answer{is("a"), is("a b"), is(), []api.Conflict{gone("a")}}}, {s, is("a b"), is("a"), is(), answer{is("a b"), is("a"), is(), []api.Conflict{gone("a")}}}, {s, is("a b c"), is("a b c d"), is("a"), answer{is("a b c"), is("a b c d"), is("a"), []api.Conflict{gone("a b")}}},
		{s, is("a", "x"), is("a b", "x"), is("y"), answer{is("a", "y"), is("a b", "y"), is("y"), []api.Conflict{gone("a")}}}, {s, is("a", "x"), is("a b", "x"), is("y", "x"), answer{is("a", "x", "y"), is("a b", "x", "y"), is("x", "y"), []api.Conflict{gone("a")}}},
		{s, is("a b", "q"), is("a c", "z"), is("a d", "y"), settled(is("a c", "a d", "y", "z"))},
	})
}

// P1201: where the archive has nothing, what both made is in it, as far as both have it.
func TestArchiveNew(t *testing.T) {
	s, v := free(), values()
	hold(t, []rule{
		{s, none(), is("a b"), is("a c"), settled(is("a b", "a c"))}, {s, is(), is("a b c", "x"), is("a b d", "y"), settled(is("a b c", "a b d", "x", "y"))},
		{v, none(), is("k x"), is("k y"), answer{is(), is("k x"), is("k y"), []api.Conflict{shape("k")}}}, {v, is(), is("k x"), is("k y"), answer{is(), is("k x"), is("k y"), []api.Conflict{shape("k")}}}, {v, none(), is("k x", "l x"), is("k y"), answer{is("l x"), is("k x", "l x"), is("k y", "l x"), []api.Conflict{shape("k")}}},
		{api.Schema{def(rest(1)), def(rest(2)), one(rest(3)), {}}, none(), is("p k x"), is("p k y"), answer{is("p"), is("p k x"), is("p k y"), []api.Conflict{shape("p k")}}},
		{api.Schema{one(rest(1)), {}}, none(), is("x"), is("y"), answer{none(), is("x"), is("y"), []api.Conflict{shape("")}}}, {api.Schema{def(rest(1)), some(rest(2)), one(rest(3)), {}}, none(), is("p k x"), is("p k y"), answer{is("p"), is("p k x"), is("p k y"), []api.Conflict{shape("p k")}}},
	})
}

// P1201: what both make together does not fit: more than one, none, a name that must be there.
func TestShape(t *testing.T) {
	v := values()
	most := api.Schema{some(rest(1)), {}}
	must := api.Schema{def(rest(1)), def(need(2, "n"), rest(2, "n")), def(rest(2))}
	hold(t, []rule{
		{v, is("k o"), is("k x"), is("k y"), answer{is("k o"), is("k x"), is("k y"), []api.Conflict{shape("k")}}}, {v, is("k o"), is("k x"), is("k x"), settled(is("k x"))}, {v, is("k o"), is("k x"), is("k o"), settled(is("k x"))}, {v, is("k o"), is("k x"), is(), answer{is("k o"), is("k x"), is(), []api.Conflict{gone("k")}}},
		{most, is("a", "b"), is("a"), is("b"), answer{is("a", "b"), is("a"), is("b"), []api.Conflict{shape("")}}}, {most, is("a", "b"), is("a"), is("b", "c"), settled(is("c"))}, {most, is("a", "b", "c"), is("a", "b"), is("b", "c"), settled(is("b"))},
		{must, is("k n"), is("k n", "k a"), is("k n", "k b"), settled(is("k n", "k a", "k b"))}, {must, none(), is("k n x"), is("k n y"), settled(is("k n x", "k n y"))}, {must, is("k n", "k o"), is("k n", "k a"), is("k n"), settled(is("k n", "k a"))},
		{v, is("a o", "b o", "c o"), is("a x", "b x", "c o"), is("a y", "b o", "c y"), answer{is("a o", "b x", "c y"), is("a x", "b x", "c y"), is("a y", "b x", "c y"), []api.Conflict{shape("a")}}},
	})
}

// P1201: no conflict stands below a KShape, and all below it stays, even what one side alone changed.
func TestShapeAlone(t *testing.T) {
	s := api.Schema{def(rest(1)), one(rest(2)), def(rest(3)), one(rest(4)), {}}
	two := api.Schema{some(rest(1)), def(rest(2)), {}}
	hold(t, []rule{
		{s, is("k v m x", "k v n x"), is("k v m y", "k v n x"), is("k v m z", "k v p x"), answer{is("k v m x", "k v p x"), is("k v m y", "k v p x"), is("k v m z", "k v p x"), []api.Conflict{shape("k v m")}}},
		{s, is("k v m x"), is("k w m y"), is("k v m z"), answer{is("k v m x"), is("k w m y"), is("k v m z"), []api.Conflict{shape("k")}}},
		{two, is("a", "b"), is("a x"), is("b x"), answer{is("a", "b"), is("a x"), is("b x"), []api.Conflict{gone("a"), gone("b")}}},
		{two, is("a", "b", "c"), is("a", "c x"), is("b", "c x"), settled(is("c x"))},
	})
	deep := api.Schema{def(rest(1)), some(rest(2)), one(rest(3)), {}}
	hold(t, []rule{
		{deep, is("p a x", "p b x", "p c x"), is("p a y", "p c x"), is("p a z", "p b x"), answer{is("p a x"), is("p a y"), is("p a z"), []api.Conflict{shape("p a")}}},
		{api.Schema{def(rest(1)), one(rest(2)), one(rest(3)), {}}, is("p a x"), is("p a y"), is("p b x"), answer{is("p a x"), is("p a y"), is("p b x"), []api.Conflict{shape("p")}}},
	})
}

// P1201: conflicts stand as they are met: by the names' order, and those below a name together.
func TestOrder(t *testing.T) {
	s := api.Schema{def(rest(1)), def(rest(2)), one(rest(3)), {}}
	o := is("b k o", "b j o", "a z o", "c k o", "\xff k o", "A k o", "aa k o")
	a := is("b k x", "b j x", "a z x", "c k x", "\xff k x", "A k x", "aa k x")
	b := is("b k y", "b j y", "a z y", "\xff k y", "A k y", "aa k y", "d k o")
	got := conflicts(call(s, o, a, b).l)
	if want := conflicts([]api.Conflict{shape("A k"), shape("a z"), shape("aa k"), shape("b j"), shape("b k"), gone("c"), shape("\xff k")}); got != want {
		t.Errorf("P1201: %s, not %s", got, want)
	}
}

// P1201, P2: conflicts beside each other, at each depth, have paths of their own.
func TestOrderDeep(t *testing.T) {
	for deep := range 10 {
		x := func(l ...string) merge.Opt { return merge.Opt{Is: true, T: chain(deep, of(l...))} }
		got := call(free(), x("a o", "b o", "c o"), x("a o x", "b x"), x("a", "c"))
		above := strings.Repeat("d ", deep)
		if want := conflicts([]api.Conflict{gone(above + "a o"), gone(above + "b"), gone(above + "c")}); conflicts(got.l) != want {
			t.Errorf("P1201: %s, not %s", conflicts(got.l), want)
		}
		if _, paths := listsOf(got); sharesPaths(paths) {
			t.Errorf("P2: %d deep: paths share memory", deep)
		}
	}
}

// P1201: names are any bytes, the empty one too.
func TestNames(t *testing.T) {
	x := func(l ...api.Edge) merge.Opt { return merge.Opt{Is: true, T: l} }
	long := strings.Repeat("x", 80)
	hold(t, []rule{
		{free(), x(), x(e("")), x(e("\x00")), settled(x(e(""), e("\x00")))}, {free(), x(e("")), x(e("", e(""))), x(), answer{x(e("")), x(e("", e(""))), x(), []api.Conflict{{Path: []string{""}, Kind: api.KGone}}}},
		{free(), x(e("", e(""))), x(e("", e("", e("\n")))), x(e("")), answer{x(e("", e(""))), x(e("", e("", e("\n")))), x(e("")), []api.Conflict{{Path: []string{"", ""}, Kind: api.KGone}}}},
		{free(), x(e(long)), x(e("a"), e(long)), x(e(long), e("é")), settled(x(e("a"), e(long), e("é")))}, {free(), x(), x(e("\xff")), x(e("a\x00"), e("\xfe")), settled(x(e("a\x00"), e("\xfe"), e("\xff")))},
	})
}

// P1201: the definition below each name is schema.To's.
func TestDefinitions(t *testing.T) {
	s := api.Schema{def(only(1, "one", "un"), only(2, "some"), rest(3, "one", "un", "some")), one(rest(3)), some(rest(3)), def(rest(0))}
	hold(t, []rule{
		{s, none(), is("one x"), is("one y"), answer{is(), is("one x"), is("one y"), []api.Conflict{shape("one")}}}, {s, none(), is("un x"), is("un y"), answer{is(), is("un x"), is("un y"), []api.Conflict{shape("un")}}}, {s, none(), is("some x"), is("some y"), settled(is("some x", "some y"))}, {s, none(), is("two x"), is("two y"), settled(is("two x", "two y"))},
		{s, is("some x", "some y"), is("some x"), is("some y"), answer{is("some x", "some y"), is("some x"), is("some y"), []api.Conflict{shape("some")}}}, {s, is("two x", "two y"), is("two x"), is("two y"), settled(is("two"))},
		{s, none(), is("two a one x"), is("two a one y"), answer{is("two a"), is("two a one x"), is("two a one y"), []api.Conflict{shape("two a one")}}}, {s, none(), is("two one x"), is("two one y"), settled(is("two one x", "two one y"))},
	})
}

// P1201: the archive need not fit, nor have only names that may stand.
func TestArchiveUnfit(t *testing.T) {
	s := api.Schema{def(only(1, "a", "b", "c")), one(rest(2)), {}}
	hold(t, []rule{
		{s, is("z q r", "a x"), is("a x"), is("a y"), settled(is("a y"))}, {s, is("z q r", "a x"), is("a x", "b x"), is("a x", "c x"), settled(is("a x", "b x", "c x"))}, {s, is("z"), is("a x"), is("a y"), answer{is(), is("a x"), is("a y"), []api.Conflict{shape("a")}}},
		{s, is("a x", "a y", "a z"), is("a x"), is("a y"), answer{is("a x", "a y", "a z"), is("a x"), is("a y"), []api.Conflict{shape("a")}}}, {s, is("a x", "a y", "a z"), is("a x"), is("a x"), settled(is("a x"))}, {s, is("a"), is("a x"), is("a y"), answer{is("a"), is("a x"), is("a y"), []api.Conflict{shape("a")}}}, {s, is("a x z"), is("a x"), is("a x", "b x"), settled(is("a x", "b x"))},
	})
}

// P1201: as trees of files are: a value, a property of several values, folders.
func TestForms(t *testing.T) {
	ini, card, marks := files.Schema(api.FIni), files.Schema(api.FCard), files.Schema(api.FMarks)
	root := []string{"folders", "links"}
	with := func(l ...string) merge.Opt { return is(append(l, root...)...) }
	hold(t, []rule{
		{ini, is("s k v"), is("s k v", "s l v"), is("s k w"), settled(is("s k w", "s l v"))}, {ini, is("s k v"), is("s k w"), is("s k x"), answer{is("s k v"), is("s k w"), is("s k x"), []api.Conflict{shape("s k")}}}, {ini, is("s k v"), is("s k w"), is("s"), answer{is("s k v"), is("s k w"), is("s"), []api.Conflict{gone("s k")}}}, {ini, is("s k v"), is("s k w"), is(), answer{is("s k v"), is("s k w"), is(), []api.Conflict{gone("s")}}},
		{card, is("C 1 blocks", "C 1 props N a"), is("C 1 blocks", "C 1 props N a", "C 1 props N b"), is("C 1 blocks", "C 1 props N c"), settled(is("C 1 blocks", "C 1 props N b", "C 1 props N c"))}, {card, is("C 1 blocks", "C 1 props N a", "C 1 props N b"), is("C 1 blocks", "C 1 props N a"), is("C 1 blocks", "C 1 props N b"), answer{is("C 1 blocks", "C 1 props N a", "C 1 props N b"), is("C 1 blocks", "C 1 props N a"), is("C 1 blocks", "C 1 props N b"), []api.Conflict{shape("C 1 props N")}}},
		{card, is("C 1 blocks", "C 1 props", "C 2 blocks", "C 2 props"), is("C 1 blocks", "C 1 props"), is("C 2 blocks", "C 2 props"), answer{is("C 1 blocks", "C 1 props", "C 2 blocks", "C 2 props"), is("C 1 blocks", "C 1 props"), is("C 2 blocks", "C 2 props"), []api.Conflict{shape("C")}}},
		{marks, none(), with("folders f links u t", "folders f folders"), with("folders f links u v", "folders f folders", "links w x"), answer{with("folders f links", "folders f folders", "links w x"), with("folders f links u t", "folders f folders", "links w x"), with("folders f links u v", "folders f folders", "links w x"), []api.Conflict{shape("folders f links u")}}},
	})
}

// P1201: trees as great and as deep as they may be; what comes of them may have more edges than a tree.
func TestGreat(t *testing.T) {
	x := func(t api.Tree) merge.Opt { return merge.Opt{Is: true, T: t} }
	both := append(row(400, "a"), row(400, "b")...)
	hold(t, []rule{
		{free(), none(), x(row(400, "a")), x(row(400, "b")), settled(x(both))}, {free(), x(row(400, "c")), x(row(400, "a")), x(row(400, "b")), settled(x(both))}, {free(), x(row(400, "a")), x(row(399, "a")), x(row(400, "a")[1:]), settled(x(row(399, "a")[1:]))},
		{free(), x(chain(12, nil)), x(chain(11, nil)), x(append(of("a"), chain(12, nil)...)), settled(x(append(of("a"), chain(11, nil)...)))}, {free(), x(chain(11, nil)), x(chain(12, nil)), x(chain(10, nil)), answer{x(chain(11, nil)), x(chain(12, nil)), x(chain(10, nil)), []api.Conflict{gone("d d d d d d d d d d d")}}}, {free(), x(chain(11, nil)), x(chain(11, of("a"))), x(chain(11, of("b"))), settled(x(chain(11, of("a", "b"))))},
	})
	o, a, b := x(nil), x(nil), x(nil)
	for _, y := range row(100, "c") {
		o.T = append(o.T, e(y.Name, e("1", e("1"))))
		a.T = append(a.T, e(y.Name, e("1", e("2"))))
		b.T = append(b.T, e(y.Name))
	}
	got := call(free(), o, a, b)
	if len(got.l) != 100 || told(got.o) != told(o) || told(got.a) != told(a) || told(got.b) != told(b) {
		t.Errorf("P1201: %d conflicts", len(got.l))
	}
}
