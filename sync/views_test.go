package sync_test

import (
	"testing"

	"cadence/api"
	"cadence/sync"
	"cadence/tree"
)

// levels is a schema of so many definitions, each of all names to the next one; the last one has no fields.
func levels(n int) api.Schema {
	s := make(api.Schema, n)
	for i := range n - 1 {
		s[i].Fields = []api.Field{{N: but(), To: i + 1}}
	}
	return s
}

func hoist(a string) api.Lens { return api.Lens{Op: api.LHoist, A: a} }

func plunge(a string) api.Lens { return api.Lens{Op: api.LPlunge, A: a} }

// P1702: files by a lens. What is not seen stays, in each file its own; the archive has what is seen. The first Sync is of no archive.
func TestViews(t *testing.T) {
	key := levels(3)
	key[1].One = true
	for i, x := range []struct {
		c                     api.Config
		a, b                  string
		a2, b2, archive, told string
	}{
		{viewed(1, filter("x", "z")), "[mine]\nk=a\n[x]\ny=1\n", "[x]\ny=1\n[his]\nk=b\n[z]\n", "[mine]\nk=a\n[x]\ny=1\n[z]\n", "[x]\ny=1\n[his]\nk=b\n[z]\n", `{"x": {"y": {"1": {}}}, "z": {}}`, "a ()"},
		{viewed(1, filter("x")), "[y]\n", "[z]\n", "[y]\n", "[z]\n", `{}`, "()"},
		{viewed(1, filter("x")), "[x]\nk=1\n[y]\n", "[x]\nk=2\n[y]\nk=1\n", "[x]\nk=1\n[y]\n", "[x]\nk=2\n[y]\nk=1\n", `{"x": {}}`, "(shape x k)"},
		{viewed(1, rename("x", "z")), "[x]\nk=1\n", ";r\n[y]\n", "[x]\nk=1\n[y]\n", ";r\n[y]\n[x]\nk=1\n", `{"y": {}, "z": {"k": {"1": {}}}}`, "a b ()"},
		{viewed(1, hoist("x"), key), "[x]\nk=1\n", "[x]\n#\nl=2\n", "[x]\nk=1\nl=2\n", "[x]\n#\nl=2\nk=1\n", `{"k": {"1": {}}, "l": {"2": {}}}`, "a b ()"},
		{viewed(1, plunge("p"), levels(5)), "[x]\nk=1\n", "", "[x]\nk=1\n", "[x]\nk=1\n", `{"p": {"x": {"k": {"1": {}}}}}`, "b ()"},
		{viewed(1, is(api.Tree{e("v")}, nil), free()), "[x]\n", "[y]\n", "[x]\n", "[y]\n", `{"v": {}}`, "()"},
		{viewed(1, mapped(is(nil, api.Tree{e("d", e("1"))})), levels(2)), "[x]\nk=1\n[y]\nl=1\n", "[x]\nk=2\n[z]\nm=1\n", "[x]\nk=1\n[y]\nl=1\n[z]\nd=1\n", "[x]\nk=2\n[z]\nm=1\n[y]\nd=1\n", `{"x": {}, "y": {}, "z": {}}`, "a b ()"},
		{viewed(1, mapped(filter("k"))), "[x]\nk=1\nl=1\n", "[x]\nl=2\n", "[x]\nk=1\nl=1\n", "[x]\nl=2\nk=1\n", `{"x": {"k": {"1": {}}}}`, "b ()"},
		{viewed(1, fork(names("x"), names("x"), mapped(is(nil, nil)), id()), free()), "[x]\nk=1\n[y]\nl=1\n", "[x]\nk=2\n[y]\nm=1\n", "[x]\nk=1\n[y]\nl=1\nm=1\n", "[x]\nk=2\n[y]\nm=1\nl=1\n", `{"x": {}, "y": {"l": {"1": {}}, "m": {"1": {}}}}`, "a b ()"},
		{viewed(1, seq(filter("x", "y"), rename("x", "z"), mapped(filter("k")))), "[x]\nk=1\nl=1\n[u]\n", "[y]\nk=2\nl=2\n[v]\n", "[x]\nk=1\nl=1\n[u]\n[y]\nk=2\n", "[y]\nk=2\nl=2\n[v]\n[x]\nk=1\n", `{"y": {"k": {"2": {}}}, "z": {"k": {"1": {}}}}`, "a b ()"},
		{viewed(2, mapped(filter("k"))), "key,k,l\nx,1,2\n", "key,k\nx,1\ny,3\n", "key,k,l\nx,1,2\ny,3,\n", "key,k\nx,1\ny,3\n", `{"x": {"k": {"1": {}}}, "y": {"k": {"3": {}}}}`, "a ()"},
		{viewed(2, mapped(fork(names("k"), names("n"), rename("k", "n"), id()))), "key,k\nx,1\n", "key,l\nx,2\n", "key,k,l\nx,1,2\n", "key,l,k\nx,2,1\n", `{"x": {"l": {"2": {}}, "n": {"1": {}}}}`, "a b ()"},
		{viewed(3, filter("C")), "BEGIN:C\nID:x\nEND:C\n", "BEGIN:D\nID:x\nEND:D\n", "BEGIN:C\nID:x\nEND:C\n", "BEGIN:D\nID:x\nEND:D\nBEGIN:C\nID:x\nEND:C\n", `{"C": {"x": {"blocks": {}, "props": {}}}}`, "b ()"},
		{viewed(4, seq(fork(names("links"), names(), is(nil, api.Tree{e("links")}), id()), hoist("folders")), free()), page("u", "1"), page("v", "2"), page("u", "1"), page("v", "2"), `{}`, "()"},
	} {
		v := begun("a", x.a, "b", x.b)
		r, e := sync.Sync(v, x.c)
		if e != api.OK || answered(r) != x.told {
			t.Errorf("P1702: %d: %v, %s, not %s", i, e, answered(r), x.told)
		}
		wanted(t, "P1702", "a", show(v, "a"), x.a2)
		wanted(t, "P1702", "b", show(v, "b"), x.b2)
		wanted(t, "P1702", "the archive", archive(t, v), x.archive)
		was := told(v)
		again, e := sync.Sync(v, x.c)
		if e != api.OK || answered(again) != "("+conflicts(r.L)+")" || told(v) != was {
			t.Errorf("T3: %d: again: %v, %s", i, e, answered(again))
		}
	}
}

// P1702: what is seen is changed, and taken by the other side; the rest is changed, and is not.
func TestViewsInARow(t *testing.T) {
	c := viewed(1, filter("x"))
	v := begun("a", "[mine]\nk=a\n[x]\ny=1\n", "b", "[x]\ny=1\n[his]\n")
	for i, x := range []struct{ name, text, a, b, archive, told string }{
		{"a", "[mine]\nk=a\n[x]\ny=1\n", "[mine]\nk=a\n[x]\ny=1\n", "[x]\ny=1\n[his]\n", `{"x": {"y": {"1": {}}}}`, "()"},
		{"b", "[x]\ny=2\n[his]\nk=c\n", "[mine]\nk=a\n[x]\ny=2\n", "[x]\ny=2\n[his]\nk=c\n", `{"x": {"y": {"2": {}}}}`, "a ()"},
		{"a", "[mine]\n", "[mine]\n", "[his]\nk=c\n", `{}`, "b ()"},
		{"b", "[his]\nk=c\n[x]\n\n", "[mine]\n[x]\n", "[his]\nk=c\n[x]\n\n", `{"x": {}}`, "a ()"},
		{"a", "", "", "[his]\nk=c\n\n", `{}`, "b ()"},
	} {
		v.Write(x.name, []byte(x.text))
		r, e := sync.Sync(v, c)
		if e != api.OK || answered(r) != x.told {
			t.Errorf("P1702: %d: %v, %s", i, e, answered(r))
		}
		wanted(t, "P1702", "a", show(v, "a"), x.a)
		wanted(t, "P1702", "b", show(v, "b"), x.b)
		wanted(t, "P1702", "the archive", archive(t, v), x.archive)
	}
}

// P1702: a view is held against what it was itself, and not against the tree that it is of: by a lens that swaps two sections the new view is just what the old tree was.
func TestSwapped(t *testing.T) {
	c := viewed(1, seq(rename("s", "q"), rename("t", "s"), rename("q", "t")))
	const was, is = "[s]\n[t]\nk=1\n", "[s]\nk=1\n[t]\n"
	v := begun("a", was, "b", is, "o", bytesOf(1, is))
	if r, e := sync.Sync(v, c); e != api.OK || answered(r) != "a ()" || show(v, "a") != is || show(v, "b") != is || show(v, "o") != bytesOf(1, was) {
		t.Errorf("P1702: %v, %s: %s", e, answered(r), all(v))
	}
}

// P1702: what a view may be, by the schema alone: what both sides make together may not be one, though the form would have it.
func TestSchema(t *testing.T) {
	one := levels(4) // a section has one key at most, and just one
	one[1].One = true
	few := api.Schema{{Fields: []api.Field{{N: names("x"), To: 1, Need: true}, {N: names("y"), To: 1}}}, {Fields: []api.Field{{N: but("q"), To: 2}}}, {Fields: []api.Field{{N: but(), To: 3}}}, {}}
	for i, x := range []struct {
		s          api.Schema
		a, b, o    string
		want       api.Errno
		a2, b2, o2 string
		told       string
	}{
		{one, "[x]\nk=1\n", "[x]\nl=1\n", "none", api.OK, "[x]\nk=1\n", "[x]\nl=1\n", "", "(shape x)"},
		{one, "[x]\nk=2\n", "[x]\nl=1\n", "[x]\nk=1\n", api.OK, "[x]\nk=2\n", "[x]\nl=1\n", "[x]\nk=1\n", "(shape x)"},
		{one, "[x]\nl=2\n", "[x]\nk=1\n", "[x]\nk=1\n", api.OK, "[x]\nl=2\n", "[x]\nl=2\n", "[x]\nl=2\n", "b ()"},
		{one, "[x]\n", "", "none", api.ErrFit, "", "", "", ""}, {one, "", "[x]\nk=1\nl=1\n", "none", api.ErrFit, "", "", "", ""},
		{few, "[x]\n", "[x]\n[y]\n", "none", api.OK, "[x]\n[y]\n", "[x]\n[y]\n", "[x]\n[y]\n", "a ()"}, {few, "[y]\n", "[x]\n", "none", api.ErrFit, "", "", "", ""}, {few, "[x]\n", "[x]\n[z]\n", "none", api.ErrFit, "", "", "", ""}, {few, "[x]\nq=1\n", "[x]\n", "none", api.ErrFit, "", "", "", ""},
		{free(), "[x]\nk=1\n", "[x]\nk=1\nl=2\n", "[z]\nq=1\n", api.OK, "[x]\nk=1\nl=2\n", "[x]\nk=1\nl=2\n", "[x]\nk=1\nl=2\n", "a ()"},
	} {
		v := row{form: 1, a: x.a, b: x.b, o: x.o}.begun(20000)
		if x.want != api.OK {
			refused(t, "a view that does not fit", v, viewed(1, id(), x.s), x.want)
			continue
		}
		r, e := sync.Sync(v, viewed(1, id(), x.s))
		if e != api.OK || answered(r) != x.told {
			t.Errorf("P1702: %d: %v, %s, not %s", i, e, answered(r), x.told)
		}
		wanted(t, "P1702", "a", show(v, "a"), x.a2)
		wanted(t, "P1702", "b", show(v, "b"), x.b2)
		wanted(t, "P1702", "the archive", archive(t, v), tree.Text(loaded(1, x.o2)))
	}
}

// P1702: of an archive no more is asked than that it is a tree: it may say what neither form nor schema allow.
func TestOddArchive(t *testing.T) {
	for i, x := range []struct {
		o          api.Tree
		a, b       string
		a2, b2, o2 string
		told       string
	}{
		{api.Tree{e("", e("a", e("b", e("c", e("d")))))}, "[x]\n", "[x]\n", "[x]\n", "[x]\n", `{"x": {}}`, "()"},
		{api.Tree{e("[", e("="))}, "[x]\n", "[y]\n", "[x]\n[y]\n", "[y]\n[x]\n", `{"x": {}, "y": {}}`, "a b ()"},
		{api.Tree{e("x", e("k", e("1"), e("2")))}, "[x]\nk=1\n", "[x]\nk=2\n", "[x]\nk=1\n", "[x]\nk=2\n", `{"x": {"k": {"1": {}, "2": {}}}}`, "(shape x k)"},
		{api.Tree{e("x", e("k"))}, "[x]\n", "[x]\nk=2\n", "[x]\n", "[x]\nk=2\n", `{"x": {"k": {}}}`, "(gone x k)"},
	} {
		v := begun("a", x.a, "b", x.b, "o", string(tree.Bytes(x.o)))
		r, e := sync.Sync(v, ini())
		if e != api.OK || answered(r) != x.told {
			t.Errorf("P1702: %d: %v, %s", i, e, answered(r))
		}
		wanted(t, "P1702", "a", show(v, "a"), x.a2)
		wanted(t, "P1702", "b", show(v, "b"), x.b2)
		wanted(t, "P1702", "the archive", archive(t, v), x.o2)
	}
}
