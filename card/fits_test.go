package card_test

import (
	"fmt"
	"math/rand"
	"strings"
	"testing"

	"cadence/api"
	"cadence/card"
	"cadence/tree"
)

// fits asks Fits of a tree; and Create, that must answer the same, or a file that says it.
func fits(t *testing.T, x api.Tree, want api.Errno) {
	t.Helper()
	if got := card.Fits(x); got != want {
		t.Errorf("P802: Fits(%.300s): %v, not %v", tree.Text(x), got, want)
	}
	s, err := card.Create(x)
	if err != want || err != api.OK && s != "" {
		t.Errorf("P803, P4: Create(%.300s): %q, %v, not %v", tree.Text(x), s, err, want)
	}
	if err != api.OK {
		return
	}
	if y, line, err := card.Load(s); err != api.OK || line != 0 || !tree.Same(x, y) {
		t.Errorf("P804: %.300s, created %q, is loaded as %s, %v", tree.Text(x), s, tree.Text(y), err)
	}
}

// inside has a tree of blocks at each depth at which it may stand: in no block, in one, in two.
func inside(t api.Tree) []api.Tree {
	one := api.Tree{e("A", b("x", t, api.Tree{p("N", "1")}))}
	return []api.Tree{t, one, {e("B", b("v", nil, nil), b("w", one, nil), b("x", nil, nil)), e("C", b("y", nil, nil))}}
}

// P802: what fits.
func TestFits(t *testing.T) {
	for _, x := range []api.Tree{
		nil, {}, {e("A", b("x", nil, nil))}, {e("A", b("x", nil, nil), b("y", nil, nil)), e("B", b("x", nil, nil))}, c(p("N", "")), c(p("N", "", "1", "2"), p("O", "1")), {e("-", b(" ", nil, nil)), e("0", b(":", nil, nil)), e("BEGIN", b("END", nil, nil)), e("END", b("BEGIN", nil, nil)), e("ID", b("ID", nil, nil))}, c(p("-", "\n"), p("9", "\r"), p("BEGINS", "\r\n"), p("I", "ID"), p("IDS", "id"), p("Z", `\`)),
		{e(strings.Repeat("A", 20), b(x(80), nil, nil))}, {e("A", b("\t", nil, nil), b(`\n`, nil, nil), b("\xff", nil, nil))}, c(p(strings.Repeat("Z", 20), x(80))), c(p("N", strings.Repeat("\n", 80))), c(p("N", strings.Repeat(`\`, 80))), c(p("A", "A")), {e("N", b(strings.Repeat(`\`, 80), nil, nil))}, c(p("N", "\x00", "\x0b", " ", "é")),
	} {
		for _, x := range inside(x) {
			fits(t, x, api.OK)
		}
	}
}

// P802: words, ids, properties and values that may not be.
func TestFitsNot(t *testing.T) {
	not := func(x api.Tree) {
		t.Helper()
		for _, x := range inside(x) {
			fits(t, x, api.ErrFit)
		}
	}
	for _, word := range []string{"", " ", "a", "A ", " A", "A B", "A:", ":", "Aa", "É", "A\n", "A\r", "@", "[", "/", "\xc1", "A_", strings.Repeat("A", 21), x(80)} {
		not(api.Tree{e(word, b("x", nil, nil))})
		not(api.Tree{e(word, b("x", nil, api.Tree{p("N", "1")}), b("y", nil, nil))})
		not(c(p(word, "1")))
		not(api.Tree{e("A", b("x", nil, nil), b("y", nil, api.Tree{p(word, "", "1")}), b("z", nil, nil)), e("B", b("x", nil, nil))})
	}
	for _, id := range []string{"", "\n", "\r", "a\n", "\na", "a\rb", "\r\n", x(79) + "\r"} {
		not(api.Tree{e("A", b(id, nil, nil))})
		not(api.Tree{e("A", b("\x01", nil, nil)), e("B", b(id, nil, api.Tree{p("N", "1")}), b("~", nil, nil)), e("C", b("x", nil, nil))})
	}
	for _, name := range []string{"ID", "BEGIN", "END"} {
		not(c(p(name, "x")))
		not(c(p("A", "1"), p(name, "", "y"), p("N", "1")))
	}
	not(api.Tree{e("A")})
	not(api.Tree{e("A", b("x", nil, nil)), e("B"), e("C", b("x", nil, nil))})
	not(c(p("N")))
	not(c(p("M", "1"), p("N"), p("O", "1")))
	for _, below := range []api.Tree{{e("")}, {e("2")}, {e("2"), e("3")}} {
		not(c(e("N", e("1", below...))))
		not(c(e("N", e("1"), e("2", below...), e("3")), p("O", "1")))
	}
}

// P802: a content is blocks and props, both, and nothing else.
func TestFitsContent(t *testing.T) {
	for _, below := range []api.Tree{nil, {}, {e("blocks")}, {e("props")}, {e("props", p("N", "1"))}, {e("N", e("1"))}, {e("Blocks"), e("blocks"), e("props")}, {e("blocks"), e("more"), e("props")}, {e("blocks"), e("props"), e("props2")}, {e(""), e("blocks"), e("props")}, {e("block"), e("props")}, {e("blocks"), e("prop")}, {e("a"), e("b")}, {e("Blocks"), e("props")}, {e("blocks"), e("x", p("N", "1"))}} {
		for _, x := range inside(api.Tree{e("A", e("x", below...))}) {
			fits(t, x, api.ErrFit)
		}
		for _, x := range inside(api.Tree{e("A", b("w", nil, nil), e("x", below...), b("y", nil, nil)), e("B", b("x", nil, nil))}) {
			fits(t, x, api.ErrFit)
		}
	}
}

// P802: three blocks deep fit, four do not, though tree.Check allows them.
func TestFitsDeep(t *testing.T) {
	fits(t, inside(c(p("N", "1")))[2], api.OK)
	fits(t, api.Tree{e("A", b("x", c(p("A", "x")), api.Tree{p("A", "x")}))}, api.OK)
	for _, x := range []api.Tree{{e("A", b("x", nil, nil))}, {e("A", e("x"))}, {e("A", e("x", e("y")))}, {e("A")}, {e("a")}, {e("")}} {
		deep := inside(c())[2]
		deep = tree.Put(deep, []string{"B", "w", "blocks", "A", "x", "blocks", "A", "x", "blocks"}, x)
		if tree.Check(deep) != api.OK {
			t.Fatalf("P802: %s", tree.Text(deep))
		}
		fits(t, deep, api.ErrFit)
	}
	deep := inside(inside(c(p("N", "1")))[1])[2]
	fits(t, deep, api.ErrDeep)
	fits(t, inside(inside(c())[1])[2], api.ErrFit)
}

// P802, P6: tree.Check's error comes ahead of ErrFit, wherever both stand.
func TestFitsCheck(t *testing.T) {
	deep := api.Tree{e("\n")}
	for range 12 {
		deep = api.Tree{e("\n", deep...)}
	}
	var many, values api.Tree
	for i := range 401 {
		many = append(many, e(fmt.Sprintf("a%03d", i)))
		values = append(values, e(fmt.Sprintf("%03d", i)))
	}
	for i, x := range []struct {
		t    api.Tree
		want api.Errno
	}{
		{deep, api.ErrDeep}, {deep[0].T, api.ErrFit}, {many, api.ErrMany}, {many[1:], api.ErrFit}, {c(e("N", values[:395]...)), api.OK}, {c(e("N", values[:396]...)), api.ErrMany}, {c(e("N", values[:395]...), p("n")), api.ErrMany}, {c(e("N", values[:394]...), p("n")), api.ErrFit},
		{api.Tree{e(x(81))}, api.ErrLong}, {api.Tree{e("A", b(x(81), nil, nil))}, api.ErrLong}, {c(p(x(81), "1")), api.ErrLong}, {c(p("N", x(81))), api.ErrLong}, {c(p("N", strings.Repeat("é", 41))), api.ErrLong}, {c(p("ID", x(81))), api.ErrLong}, {api.Tree{e(""), e("A", b(x(81), nil, nil))}, api.ErrLong}, {c(e("N", e("1", e(x(81))))), api.ErrLong}, {inside(inside(c())[1])[1], api.OK}, {inside(c(p(x(81), "")))[2], api.ErrLong}, {inside(inside(c(p(x(81), "")))[1])[2], api.ErrDeep}, {api.Tree{e("A", b(x(81), inside(inside(c(p("N", "1")))[1])[1], nil))}, api.ErrLong},
		{api.Tree{e("B", b("x", nil, nil)), e("A", b("x", nil, nil))}, api.ErrName}, {api.Tree{e("A", b("x", nil, nil)), e("A", b("y", nil, nil))}, api.ErrName}, {api.Tree{e("A", b("x", nil, nil), b("x", nil, nil))}, api.ErrName}, {api.Tree{e("A", e("x", e("props"), e("blocks")))}, api.ErrName}, {c(p("N", "1"), p("M", "1")), api.ErrName}, {c(p("N", "1", "1")), api.ErrName}, {c(p("N", "2", "1")), api.ErrName}, {api.Tree{e(""), e("b"), e("a")}, api.ErrName}, {inside(c(p("N", "1", "1")))[2], api.ErrName},
	} {
		if got := card.Fits(x.t); got != x.want {
			t.Errorf("P802: %d: %v, not %v", i, got, x.want)
		}
		for _, s := range []string{"", "BEGIN:A\nID:x\nN:1\nEND:A\n"} {
			if made, err := card.Put(x.t, s); err != x.want || err != api.OK && made != "" {
				t.Errorf("P803, P4: %d: %q, %v, not %v", i, made, err, x.want)
			}
		}
	}
}

// P802: each byte, at each place of a word, an id, a property and a value.
func TestFitsEveryByte(t *testing.T) {
	for n := range 256 {
		one := string([]byte{byte(n)})
		for _, s := range []string{one, one + "A", "A" + one, "A" + one + "A", one + one, "ID" + one, one + "ID", strings.Repeat("A", 19) + one, strings.Repeat("A", 79) + one} {
			for _, x := range []api.Tree{{e(s, b("x", nil, nil))}, {e("A", b(s, nil, nil))}, c(p(s, "1")), c(p("N", s))} {
				for _, x := range inside(x) {
					fits(t, x, plainFits(x))
				}
			}
		}
	}
}

// P802: trees with an edge more or less anywhere, and trees of many kinds.
func TestFitsAll(t *testing.T) {
	whole := inside(c(p("M", "1"), p("N", "", "2")))[2]
	var paths [][]string
	walk(whole, nil, func(path []string) { paths = append(paths, path) })
	for _, path := range paths {
		fits(t, tree.Drop(whole, path), plainFits(tree.Drop(whole, path)))
		for _, name := range []string{"A", "a", "", "x", "N", "ID", "END", "blocks", "props", "\n"} {
			for _, below := range []api.Tree{nil, {e("A")}, {e("blocks"), e("props")}, {b("x", nil, nil)}} {
				x := tree.Put(whole, append(path[:len(path):len(path)], name), below)
				fits(t, x, plainFits(x))
				x = tree.Put(whole, append(path[:len(path)-1:len(path)-1], name), below)
				fits(t, x, plainFits(x))
			}
		}
	}
	r := rand.New(rand.NewSource(6))
	for range 5000 {
		x := randomTree(r, true)
		fits(t, x, plainFits(x))
	}
}

// walk tells all paths of a tree.
func walk(t api.Tree, path []string, each func([]string)) {
	for _, x := range t {
		here := append(path[:len(path):len(path)], x.Name)
		each(here)
		walk(x.T, here, each)
	}
}
