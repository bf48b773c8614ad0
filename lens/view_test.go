package lens_test

import (
	"testing"

	"cadence/api"
	"cadence/lens"
	"cadence/tree"
)

// seen is a lens, and what its calls must answer: a tree as text, or an error's word.
type seen struct {
	l                api.Lens
	c, a             api.Tree
	get, put, create string
}

// told is an answer as text.
func told(t *testing.T, x api.Tree, e api.Errno) string {
	t.Helper()
	if e == api.OK {
		return tree.Text(x)
	}
	if len(x) != 0 {
		t.Errorf("P4: %v, and %s", e, tree.Text(x))
	}
	return e.Error()
}

func look(t *testing.T, l []seen) {
	t.Helper()
	for i, x := range l {
		if e := lens.Check(x.l); e != api.OK {
			t.Fatalf("P1101: %d: %v", i, e)
		}
		get, e := lens.Get(x.l, x.c)
		if s := told(t, get, e); s != x.get {
			t.Errorf("P1102: %d: Get: %s, not %s", i, s, x.get)
		}
		put, e := lens.Put(x.l, x.a, x.c)
		if s := told(t, put, e); s != x.put {
			t.Errorf("P1102: %d: Put: %s, not %s", i, s, x.put)
		}
		create, e := lens.Create(x.l, x.a)
		if s := told(t, create, e); s != x.create {
			t.Errorf("P1102: %d: Create: %s, not %s", i, s, x.create)
		}
		laws(t, x.l, x.a, x.c)
	}
}

// abc is a tree of three edges, each with another one below.
func abc() api.Tree {
	return api.Tree{e("a", e("1")), e("b", e("2")), e("c", e("3"))}
}

const abcText = `{"a": {"1": {}}, "b": {"2": {}}, "c": {"3": {}}}`

// P1102: LId, LConst.
func TestIdConst(t *testing.T) {
	konst := always(of("t"), of("u"))
	look(t, []seen{
		{id(), abc(), of("x"), abcText, `{"x": {}}`, `{"x": {}}`},
		{id(), nil, nil, `{}`, `{}`, `{}`},
		{api.Lens{Op: api.LId, A: "a", N: set("a"), T: of("t")}, abc(), abc(), abcText, abcText, abcText},
		{konst, abc(), of("t"), `{"t": {}}`, abcText, `{"u": {}}`},
		{konst, nil, of("t"), `{"t": {}}`, `{}`, `{"u": {}}`},
		{konst, abc(), of("u"), `{"t": {}}`, "kind", "kind"},
		{konst, abc(), nil, `{"t": {}}`, "kind", "kind"},
		{konst, abc(), api.Tree{e("t", e("t"))}, `{"t": {}}`, "kind", "kind"},
		{konst, of("t"), abc(), `{"t": {}}`, "kind", "kind"},
		{always(nil, abc()), of("x"), nil, `{}`, `{"x": {}}`, abcText},
		{always(nil, nil), of("x"), of("x"), `{}`, "kind", "kind"},
		{always(abc(), nil), nil, abc(), abcText, `{}`, `{}`},
	})
}

// P1102: LRename: what is below stays, and names' order holds.
func TestRename(t *testing.T) {
	look(t, []seen{
		{rename("a", "z"), abc(), api.Tree{e("b"), e("z", e("9"))}, `{"b": {"2": {}}, "c": {"3": {}}, "z": {"1": {}}}`, `{"a": {"9": {}}, "b": {}}`, `{"a": {"9": {}}, "b": {}}`},
		{rename("c", ""), abc(), api.Tree{e("", e("9")), e("b")}, `{"": {"3": {}}, "a": {"1": {}}, "b": {"2": {}}}`, `{"b": {}, "c": {"9": {}}}`, `{"b": {}, "c": {"9": {}}}`},
		{rename("b", "bb"), abc(), of("bb"), `{"a": {"1": {}}, "bb": {"2": {}}, "c": {"3": {}}}`, `{"b": {}}`, `{"b": {}}`},
		{rename("a", "b"), abc(), of("a"), "kind", "kind", "kind"},
		{rename("a", "b"), of("a"), of("a", "b"), `{"b": {}}`, "kind", "kind"},
		{rename("a", "b"), of("b"), of("b"), "kind", `{"a": {}}`, `{"a": {}}`},
		{rename("q", "z"), abc(), of("x"), abcText, `{"x": {}}`, `{"x": {}}`},
		{rename("q", "z"), nil, nil, `{}`, `{}`, `{}`},
		{rename("q", "a"), abc(), of("q"), "kind", "kind", "kind"},
		{rename("1", "a"), api.Tree{e("x", e("1"))}, api.Tree{e("x", e("a"))}, `{"x": {"1": {}}}`, `{"x": {"a": {}}}`, `{"x": {"a": {}}}`},
	})
}

// P1102: LHoist, LPlunge.
func TestHoistPlunge(t *testing.T) {
	look(t, []seen{
		{hoist("a"), api.Tree{e("a", e("1"), e("2"))}, of("x"), `{"1": {}, "2": {}}`, `{"a": {"x": {}}}`, `{"a": {"x": {}}}`},
		{hoist("a"), of("a"), nil, `{}`, `{"a": {}}`, `{"a": {}}`},
		{hoist("a"), abc(), abc(), "kind", `{"a": ` + abcText + `}`, `{"a": ` + abcText + `}`},
		{hoist("a"), of("b"), of("a"), "kind", `{"a": {"a": {}}}`, `{"a": {"a": {}}}`},
		{hoist("a"), nil, nil, "kind", `{"a": {}}`, `{"a": {}}`},
		{hoist(""), under(of("x"), ""), of("y"), `{"x": {}}`, `{"": {"y": {}}}`, `{"": {"y": {}}}`},
		{plunge("a"), abc(), api.Tree{e("a", e("1"), e("2"))}, `{"a": ` + abcText + `}`, `{"1": {}, "2": {}}`, `{"1": {}, "2": {}}`},
		{plunge("a"), nil, of("a"), `{"a": {}}`, `{}`, `{}`},
		{plunge("a"), of("x"), abc(), `{"a": {"x": {}}}`, "kind", "kind"},
		{plunge("a"), of("x"), of("b"), `{"a": {"x": {}}}`, "kind", "kind"},
		{plunge("a"), of("x"), nil, `{"a": {"x": {}}}`, "kind", "kind"},
		{plunge(""), of("x"), under(of("y"), ""), `{"": {"x": {}}}`, `{"y": {}}`, `{"y": {}}`},
	})
}

// P1102: LFilter.
func TestFilter(t *testing.T) {
	look(t, []seen{
		{filter(set("c", "a", "c")), abc(), api.Tree{e("a", e("9"))}, `{"a": {"1": {}}, "c": {"3": {}}}`, `{"a": {"9": {}}, "b": {"2": {}}}`, `{"a": {"9": {}}}`},
		{filter(rest("a", "c")), abc(), of("", "b", "d"), `{"b": {"2": {}}}`, `{"": {}, "a": {"1": {}}, "b": {}, "c": {"3": {}}, "d": {}}`, `{"": {}, "b": {}, "d": {}}`},
		{filter(set("a")), abc(), of("b"), `{"a": {"1": {}}}`, "kind", "kind"},
		{filter(set("a")), abc(), of("a", "d"), `{"a": {"1": {}}}`, "kind", "kind"},
		{filter(rest("a")), abc(), of("a"), `{"b": {"2": {}}, "c": {"3": {}}}`, "kind", "kind"},
		{filter(set()), abc(), nil, `{}`, abcText, `{}`},
		{filter(set()), abc(), of("a"), `{}`, "kind", "kind"},
		{filter(rest()), abc(), of("x"), abcText, `{"x": {}}`, `{"x": {}}`},
		{filter(set("1")), abc(), of("1"), `{}`, `{"1": {}, "a": {"1": {}}, "b": {"2": {}}, "c": {"3": {}}}`, `{"1": {}}`},
		{api.Lens{Op: api.LFilter, N: set("a"), M: set("b")}, abc(), of("a"), `{"a": {"1": {}}}`, `{"a": {}, "b": {"2": {}}, "c": {"3": {}}}`, `{"a": {}}`},
	})
}

// P1102: LFork: N tells c's edges, M those of a view.
func TestFork(t *testing.T) {
	part := fork(set("a"), set("z"), rename("a", "z"), filter(set("b")))
	konst := always(of("t"), of("u"))
	look(t, []seen{
		{part, abc(), api.Tree{e("b", e("8")), e("z", e("9"))}, `{"b": {"2": {}}, "z": {"1": {}}}`, `{"a": {"9": {}}, "b": {"8": {}}, "c": {"3": {}}}`, `{"a": {"9": {}}, "b": {"8": {}}}`},
		{part, abc(), nil, `{"b": {"2": {}}, "z": {"1": {}}}`, `{"c": {"3": {}}}`, `{}`},
		{part, nil, of("z"), `{}`, `{"a": {}}`, `{"a": {}}`},
		{part, abc(), of("a", "z"), `{"b": {"2": {}}, "z": {"1": {}}}`, "kind", "kind"},
		{fork(rest("a"), rest("z"), id(), rename("a", "z")), abc(), of("b", "y", "z"), `{"b": {"2": {}}, "c": {"3": {}}, "z": {"1": {}}}`, `{"a": {}, "b": {}, "y": {}}`, `{"a": {}, "b": {}, "y": {}}`},
		{fork(set("a"), set("q"), rename("a", "z"), id()), abc(), of("b"), "kind", `{"b": {}}`, `{"b": {}}`},
		{fork(set("a"), set("a"), id(), rename("b", "a")), abc(), of("c"), "kind", `{"c": {}}`, `{"c": {}}`},
		{fork(set("a"), set("z"), rename("a", "y"), id()), of("b"), of("z"), `{"b": {}}`, "kind", "kind"},
		{fork(set("a"), set("z"), rename("a", "z"), rename("a", "b")), of("c"), of("b"), `{"c": {}}`, "kind", "kind"},
		{fork(set("a", "b"), set("a", "b"), rename("a", "b"), id()), abc(), of("b"), "kind", `{"a": {}}`, `{"a": {}}`},
		{fork(set("a"), set("1"), hoist("a"), plunge("r")), abc(), api.Tree{e("1"), e("r", e("x"))}, `{"1": {}, "r": {"b": {"2": {}}, "c": {"3": {}}}}`, `{"a": {"1": {}}, "x": {}}`, `{"a": {"1": {}}, "x": {}}`},
		{fork(set("z"), set("z"), hoist("z"), id()), abc(), abc(), "kind", `{"a": {"1": {}}, "b": {"2": {}}, "c": {"3": {}}, "z": {}}`, `{"a": {"1": {}}, "b": {"2": {}}, "c": {"3": {}}, "z": {}}`},
		{fork(set("u", "c"), set("t"), konst, id()), abc(), of("t"), `{"a": {"1": {}}, "b": {"2": {}}, "t": {}}`, `{"c": {"3": {}}}`, `{"u": {}}`},
		{fork(set("u"), set("t"), konst, id()), of("a"), of("t"), `{"a": {}, "t": {}}`, `{}`, `{"u": {}}`},
		{fork(set("a"), set("a"), id(), konst), abc(), of("a", "t"), `{"a": {"1": {}}, "t": {}}`, `{"a": {}, "b": {"2": {}}, "c": {"3": {}}}`, `{"a": {}, "u": {}}`},
		{fork(set("a"), set("a"), id(), konst), of("a"), of("t"), `{"a": {}, "t": {}}`, `{}`, `{"u": {}}`},
		{fork(set(), set(), id(), id()), abc(), of("x"), abcText, `{"x": {}}`, `{"x": {}}`},
		{fork(rest(), rest(), plunge("p"), id()), abc(), of("x"), `{"p": ` + abcText + `}`, "kind", "kind"},
	})
}

// P1102: LMap: an edge that c has, if nothing is below it, is put; one that it has not is made.
func TestMap(t *testing.T) {
	konst := always(of("t"), of("u"))
	look(t, []seen{
		{each(plunge("p")), abc(), api.Tree{e("a", e("p", e("9"))), e("n", e("p"))}, `{"a": {"p": {"1": {}}}, "b": {"p": {"2": {}}}, "c": {"p": {"3": {}}}}`, `{"a": {"9": {}}, "n": {}}`, `{"a": {"9": {}}, "n": {}}`},
		{each(plunge("p")), abc(), of("a"), `{"a": {"p": {"1": {}}}, "b": {"p": {"2": {}}}, "c": {"p": {"3": {}}}}`, "kind", "kind"},
		{each(konst), api.Tree{e("a", e("1")), e("b")}, api.Tree{e("a", e("t")), e("b", e("t")), e("n", e("t"))}, `{"a": {"t": {}}, "b": {"t": {}}}`, `{"a": {"1": {}}, "b": {}, "n": {"u": {}}}`, `{"a": {"u": {}}, "b": {"u": {}}, "n": {"u": {}}}`},
		{each(konst), nil, nil, `{}`, `{}`, `{}`},
		{each(konst), nil, api.Tree{e("a", e("u"))}, `{}`, "kind", "kind"},
		{each(hoist("1")), abc(), of("x"), "kind", `{"x": {"1": {}}}`, `{"x": {"1": {}}}`},
		{each(hoist("1")), nil, nil, `{}`, `{}`, `{}`},
		{each(filter(set("x"))), api.Tree{e("a", e("x"), e("y")), e("b", e("z"))}, api.Tree{e("a"), e("b", e("x")), e("c", e("x"))}, `{"a": {"x": {}}, "b": {}}`, `{"a": {"y": {}}, "b": {"x": {}, "z": {}}, "c": {"x": {}}}`, `{"a": {}, "b": {"x": {}}, "c": {"x": {}}}`},
		{each(each(konst)), api.Tree{e("a", e("b", e("1")))}, api.Tree{e("a", e("b", e("t")), e("c", e("t"))), e("d", e("b", e("t")))}, `{"a": {"b": {"t": {}}}}`, `{"a": {"b": {"1": {}}, "c": {"u": {}}}, "d": {"b": {"u": {}}}}`, `{"a": {"b": {"u": {}}, "c": {"u": {}}}, "d": {"b": {"u": {}}}}`},
	})
}

// P1102: LSeq: forth by its kids in order, back by them the other way about, each with what stood ahead of it.
func TestSeq(t *testing.T) {
	konst := always(of("t"), of("u"))
	look(t, []seen{
		{seq(filter(set("a", "b")), rename("a", "z"), plunge("p")), abc(), under(of("z"), "p"), `{"p": {"b": {"2": {}}, "z": {"1": {}}}}`, `{"a": {}, "c": {"3": {}}}`, `{"a": {}}`},
		{seq(rename("a", "b"), rename("c", "a")), api.Tree{e("a", e("1")), e("c", e("3"))}, of("a"), `{"a": {"3": {}}, "b": {"1": {}}}`, `{"c": {}}`, `{"c": {}}`},
		{seq(rename("c", "a"), rename("a", "b")), api.Tree{e("a", e("1")), e("c", e("3"))}, of("b"), "kind", "kind", `{"c": {}}`},
		{seq(id()), abc(), of("x"), abcText, `{"x": {}}`, `{"x": {}}`},
		{seq(hoist("q")), abc(), of("x"), "kind", `{"q": {"x": {}}}`, `{"q": {"x": {}}}`},
		{seq(id(), hoist("q")), abc(), of("x"), "kind", `{"q": {"x": {}}}`, `{"q": {"x": {}}}`},
		{seq(hoist("q"), id()), abc(), of("x"), "kind", "kind", `{"q": {"x": {}}}`},
		{seq(hoist("q"), konst), abc(), of("t"), "kind", "kind", `{"q": {"u": {}}}`},
		{seq(konst, hoist("t")), abc(), nil, `{}`, abcText, `{"u": {}}`},
		{seq(konst, hoist("t")), abc(), of("x"), `{}`, "kind", "kind"},
		{seq(hoist("a"), hoist("b"), filter(set("x"))), under(of("x", "y"), "a", "b"), nil, `{"x": {}}`, `{"a": {"b": {"y": {}}}}`, `{"a": {"b": {}}}`},
		{seq(filter(set("a")), each(filter(set("1"))), hoist("a")), api.Tree{e("a", e("1"), e("2")), e("b")}, nil, `{"1": {}}`, `{"a": {"2": {}}, "b": {}}`, `{"a": {}}`},
		{seq(plunge("1"), plunge("2"), plunge("3"), plunge("4"), plunge("5"), plunge("6"), plunge("7"), plunge("8")), nil, under(of("x"), "8", "7", "6", "5", "4", "3", "2", "1"), tree.Text(under(nil, "8", "7", "6", "5", "4", "3", "2", "1")), `{"x": {}}`, `{"x": {}}`},
		{seq(seq(plunge("1"), konst), seq(id(), hoist("t"))), abc(), nil, `{}`, abcText, "kind"},
	})
}

// Chapter 11, example 1.
func TestExample(t *testing.T) {
	for _, c := range []api.Tree{nil, abc(), chain(11), row(399, "r")} {
		x, e := lens.Get(plunge("a"), c)
		if s := told(t, x, e); s != `{"a": `+tree.Text(c)+`}` {
			t.Errorf("example 1: %s", s)
		}
	}
}
