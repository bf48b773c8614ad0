package marks_test

import (
	"cmp"
	"fmt"
	"math/rand"
	"strings"
	"testing"

	"cadence/api"
	"cadence/marks"
	"cadence/tree"
)

// fits asks Fits of a tree; and Create, that must answer the same, or a file that says it.
func fits(t *testing.T, x api.Tree, want api.Errno) {
	t.Helper()
	if got := marks.Fits(x); got != want {
		t.Errorf("P902: Fits(%.300s): %v, not %v", tree.Text(x), got, want)
	}
	s, err := marks.Create(x)
	if err != want || err != api.OK && s != "" {
		t.Errorf("P903, P4: Create(%.300s): %q, %v, not %v", tree.Text(x), s, err, want)
	}
	if err != api.OK {
		return
	}
	if y, line, err := marks.Load(s); err != api.OK || line != 0 || !tree.Same(x, y) {
		t.Errorf("P904: %.300s, created %q, is loaded as %s, %v", tree.Text(x), s, tree.Text(y), err)
	}
}

// inside has a content at each depth at which it may stand, beside others too.
func inside(t api.Tree) []api.Tree {
	l := []api.Tree{t, c(api.Tree{d("!", nil, l("u", "1")), e("f", t...), d("~", api.Tree{d("f", nil)})}, l("v", ""))}
	for deep := 1; deep < 5; deep++ {
		l = append(l, within(deep, t))
	}
	return l
}

// P902: what fits.
func TestFits(t *testing.T) {
	for _, x := range []api.Tree{
		c(nil), c(api.Tree{}), c(nil, l("u", "")), c(nil, l("u", "1"), l("v", "1"), l("w", "u")), c(nil, l(" ", " "), l("\"><&", "\"><&")), c(nil, l("\x00\xff", "\x00\xff\x0b")), c(nil, l(x(80), x(80))), c(nil, l("folders", "links"), l("links", "folders")), c(nil, l(strings.Repeat("é", 40), strings.Repeat("&", 80))), c(nil, l("</A>", "</DL>"), l("<DL>", "<!MARKS>")), c(nil, l("&amp;", "&lt;")),
	} {
		for _, x := range inside(x) {
			fits(t, x, api.OK)
		}
	}
	for _, name := range []string{"f", " ", "\t f ", "<>&\"", "\x00", "\xff", "é", "folders", "links", "&amp;", "</H3>", x(80), strings.Repeat("&", 80)} {
		for deep := range 4 {
			fits(t, within(deep, c(api.Tree{d(name, nil, l("u", ""))}, l("u", "1"))), api.OK)
			fits(t, within(deep, c(api.Tree{d(name, nil), d(name[:len(name)-1]+"\xff\xff", nil)})), plainFits(within(deep, c(api.Tree{d(name, nil), d(name[:len(name)-1]+"\xff\xff", nil)}))))
		}
	}
}

// P902: places, titles and names that may not be.
func TestFitsNot(t *testing.T) {
	not := func(x api.Tree) {
		t.Helper()
		for _, x := range inside(x) {
			fits(t, x, cmp.Or(tree.Check(x), api.ErrFit))
		}
	}
	for _, s := range []string{"", "\n", "\r", "a\n", "\na", "a\rb", "\r\n", x(79) + "\r", "\n" + x(79)} {
		not(c(nil, l(s, "t")))
		not(c(nil, l(s, ""), l("~", "t")))
		not(c(nil, e(s)))
		not(c(api.Tree{d(s, nil)}))
		not(c(api.Tree{d(s, nil, l("u", "1")), d("~", nil)}, l("u", "1")))
		if s != "" {
			not(c(nil, l("u", s)))
			not(c(nil, l("!", ""), l("u", s), l("v", "")))
			not(c(api.Tree{d("f", nil)}, l("u", s)))
		}
	}
	for _, below := range []api.Tree{nil, {}, {e("1"), e("2")}, {e(""), e("1")}, {e("1", e(""))}, {e("", e(""))}, {e("1", e("2", e("3")))}, {e("1"), e("2", e("3"))}, c(nil)} {
		not(c(nil, e("u", below...)))
		not(c(nil, l("!", ""), e("u", below...), l("v", "1")))
		not(c(api.Tree{d("f", nil)}, e("u", below...)))
	}
}

// P902: a content is folders and links, both, and nothing else.
func TestFitsContent(t *testing.T) {
	for _, content := range []api.Tree{nil, {}, {e("folders")}, {e("links")}, {e("links", l("u", "1"))}, {e("u", e("1"))}, {e(""), e("folders"), e("links")}, {e("folders"), e("links"), e("more")}, {e("folders"), e("kinks"), e("links")}, {e("folder"), e("links")}, {e("folders"), e("link")}, {e("Folders"), e("links")}, {e("Links"), e("folders")}, {e("folders"), e("linkz", l("u", "1"))}, {e("a"), e("b")}, {e("blocks"), e("props")}, {e("folders", e("f")), e("links")}, {e("folders", e("f", e("u"))), e("links")}, {e("folders", l("u", "1")), e("links")}} {
		for _, x := range inside(content) {
			fits(t, x, api.ErrFit)
		}
	}
}

// P902: four folders deep fit, five do not, though tree.Check allows them.
func TestFitsDeep(t *testing.T) {
	for deep := range 5 {
		fits(t, within(deep, c(nil, l("u", "1"))), api.OK)
		fits(t, c(api.Tree{d("a", nil), d("b", nil)}, within(deep, c(nil, l("u", "1")))[1].T...), api.OK)
	}
	fits(t, within(5, c(nil)), api.ErrFit)
	for _, x := range []api.Tree{{d("f", nil)}, {e("f")}, {e("")}, {d("a", nil), d("b", nil)}, {e("f", e("links"))}} {
		y := within(4, c(x))
		if tree.Check(y) != api.OK {
			t.Fatalf("P902: %s", tree.Text(y))
		}
		fits(t, y, api.ErrFit)
		fits(t, c(api.Tree{d("a", nil), e("b", within(3, c(x))...), d("c", nil)}), api.ErrFit)
	}
	fits(t, within(5, c(nil, e("u"))), api.ErrFit)
	fits(t, within(5, c(nil, l("u", "1"))), api.ErrDeep)
	fits(t, within(6, c(nil)), api.ErrDeep)
}

// P902, P6: tree.Check's error comes ahead of ErrFit, wherever both stand.
func TestFitsCheck(t *testing.T) {
	deep := api.Tree{e("\n")}
	for range 12 {
		deep = api.Tree{e("\n", deep...)}
	}
	var many, names api.Tree
	for i := range 401 {
		many = append(many, e(fmt.Sprintf("a%03d", i)))
		names = append(names, l(fmt.Sprintf("%03d", i), ""))
	}
	for i, x := range []struct {
		t    api.Tree
		want api.Errno
	}{
		{deep, api.ErrDeep}, {deep[0].T, api.ErrFit}, {many, api.ErrMany}, {many[1:], api.ErrFit}, {c(nil, names[:200]...), api.ErrMany}, {c(nil, append(names[:199:199], e("x"))...), api.ErrMany}, {c(nil, append(names[:198:198], e("x"))...), api.ErrFit}, {c(many[:399]), api.ErrMany}, {c(many[:398]), api.ErrFit},
		{api.Tree{e(x(81))}, api.ErrLong}, {c(nil, l(x(81), "")), api.ErrLong}, {c(nil, l("u", x(81))), api.ErrLong}, {c(api.Tree{d(x(81), nil)}), api.ErrLong}, {c(api.Tree{d(strings.Repeat("é", 41), nil)}), api.ErrLong}, {c(nil, e(""), l(x(81), "")), api.ErrLong}, {within(4, c(nil, l("u", x(81)))), api.ErrLong}, {within(5, c(nil, l(x(81), ""))), api.ErrLong}, {within(6, c(nil, l(x(81), ""))), api.ErrDeep}, {c(nil, e("u", e("1", e(x(81))))), api.ErrLong},
		{api.Tree{e("links"), e("folders")}, api.ErrName}, {api.Tree{e("folders"), e("folders"), e("links")}, api.ErrName}, {c(nil, l("v", ""), l("u", "")), api.ErrName}, {c(nil, l("u", "1"), l("u", "1")), api.ErrName}, {c(api.Tree{d("f", nil), d("f", nil)}), api.ErrName}, {c(api.Tree{d("g", nil), d("f", nil)}), api.ErrName}, {c(nil, e("u", e("1"), e("1"))), api.ErrName}, {c(nil, e("u", e("2"), e("1"))), api.ErrName}, {api.Tree{e(""), e("b"), e("a")}, api.ErrName}, {within(4, c(nil, l("u", ""), l("u", ""))), api.ErrName}, {within(5, c(nil, e("u"), e("u"))), api.ErrName},
	} {
		if got := marks.Fits(x.t); got != x.want {
			t.Errorf("P902: %d: %v, not %v", i, got, x.want)
		}
		for _, s := range []string{file(), file(folder("f", link("u", "1")), link("u", "1"))} {
			if made, err := marks.Put(x.t, s); err != x.want || made != "" {
				t.Errorf("P903, P4: %d: %q, %v, not %v", i, made, err, x.want)
			}
		}
	}
	if err := marks.Fits(c(nil, names[:199]...)); err != api.OK {
		t.Errorf("P902: %v", err)
	}
}

// P902: each byte, at each place of a place, a title and a name.
func TestFitsEveryByte(t *testing.T) {
	for n := range 256 {
		one := string([]byte{byte(n)})
		for _, s := range []string{one, one + "a", "a" + one, "a" + one + "a", one + one, x(79) + one, one + x(79)} {
			for _, x := range []api.Tree{c(nil, l(s, "t")), c(nil, l("u", s)), c(api.Tree{d(s, nil)})} {
				for _, x := range []api.Tree{x, within(3, x), c(api.Tree{e("a", x...), d("b", nil)})} {
					fits(t, x, plainFits(x))
				}
			}
		}
	}
}

// P902: trees with an edge more or less anywhere, and trees of many kinds.
func TestFitsAll(t *testing.T) {
	whole := c(api.Tree{d("f", api.Tree{d("f", api.Tree{d("h", nil)}, l("u", "1")), d("g", nil)}), d("g", nil, l("v", ""))}, l("u", "1"), l("w", ""))
	var paths [][]string
	walk(whole, nil, func(path []string) { paths = append(paths, path) })
	for _, path := range paths {
		fits(t, tree.Drop(whole, path), plainFits(tree.Drop(whole, path)))
		for _, name := range []string{"f", "", "u", "folders", "links", "\n", "\r", "t"} {
			for _, below := range []api.Tree{nil, {e("1")}, c(nil), c(api.Tree{d("f", nil)}, l("u", "1")), {l("u", "1")}} {
				x := tree.Put(whole, append(path[:len(path):len(path)], name), below)
				fits(t, x, plainFits(x))
				x = tree.Put(whole, append(path[:len(path)-1:len(path)-1], name), below)
				fits(t, x, plainFits(x))
			}
		}
	}
	r := rand.New(rand.NewSource(6))
	for range 4000 {
		x := randomTree(r, true)
		if want := plainFits(x); want != api.OK {
			fits(t, x, want)
		} else if got := marks.Fits(x); got != api.OK {
			t.Errorf("P902: Fits(%s): %v", tree.Text(x), got)
		}
	}
}

// walk tells all paths of a tree.
func walk(t api.Tree, path []string, each func([]string)) {
	for _, x := range t {
		here := append(path[:len(path):len(path)], x.Name)
		each(here)
		walk(x.T, here, each)
	}
}
