package ini_test

import (
	"fmt"
	"math/rand"
	"testing"

	"cadence/api"
	"cadence/ini"
	"cadence/tree"
)

// fits asks Fits of a tree, and of those in which it stands behind or ahead of others; and Create, that must answer the same, or a file that says it.
func fits(t *testing.T, x api.Tree, want api.Errno) {
	t.Helper()
	if got := ini.Fits(x); got != want {
		t.Errorf("P602: Fits(%.300s): %v, not %v", tree.Text(x), got, want)
	}
	s, err := ini.Create(x)
	if err != want || err != api.OK && s != "" {
		t.Errorf("P603, P4: Create(%.300s): %q, %v, not %v", tree.Text(x), s, err, want)
	}
	if y, line, err := ini.Load(s); err != api.OK || line != 0 || want == api.OK && !tree.Same(x, y) {
		t.Errorf("P604: %.300s, created %q, is loaded as %s, %v", tree.Text(x), s, tree.Text(y), err)
	}
}

// P602: what fits.
func TestFits(t *testing.T) {
	for _, x := range []api.Tree{
		nil, {}, {e("a")}, {e("a"), e("b"), e("c d")}, {e("a", k("k", ""))}, {e("a", k("k", "v"), k("l", "")), e("b"), e("c", k("k", "w"))}, {e(";#=", k("a;#[]", ";#=[]"))}, {e("a\tb", k("a \tb", "a \tb"))}, {e("\x00\xff", k("\x00\xff", "\x00\xff"))}, {e("\x0b", k("\x0c", "\x0b"))}, {e("\u00a0", k("\u00a0", "\u00a0"))},
		{e("=", k("]", "="))}, {e(x(80), k(x(80), x(80)))}, {e("a", k("k", "k"))}, {e("a", k("a", "a"))}, {e("blocks", k("ID", "[a]"))},
	} {
		fits(t, x, api.OK)
	}
}

// P602: what does not.
func TestFitsNot(t *testing.T) {
	for _, name := range []string{"", " ", "\t", " a", "a ", "\ta", "a\t", "[", "]", "[a]", "a[b", "a]b", "a]", "[a", "\n", "\r", "a\nb", "a\rb", "a\n", "\ra", "a\r"} {
		fits(t, api.Tree{e(name)}, api.ErrFit)
		fits(t, api.Tree{e(name, k("k", "v"))}, api.ErrFit)
		fits(t, api.Tree{e("!"), e(name)}, cmpFit("!", name))
		fits(t, api.Tree{e(name), e("~", k("k", "v"))}, api.ErrFit)
	}
	for _, name := range []string{"", " ", "\t", " k", "k ", "\tk", "k\t", "=", "k=", "=k", "k=l", "[", "[k", "[k]", ";", ";k", "#", "#k", "\n", "\r", "k\nl", "k\rl", "k\n", "\rk"} {
		fits(t, api.Tree{e("a", k(name, "v"))}, api.ErrFit)
		fits(t, api.Tree{e("a", k(name, ""))}, api.ErrFit)
		fits(t, api.Tree{e("a"), e("b", k("!", "v"), k(name, "v"))}, cmpFit("!", name))
		fits(t, api.Tree{e("a", k(name, "v"), k("~", "v")), e("b")}, api.ErrFit)
	}
	for _, value := range []string{" ", "\t", " v", "v ", "\tv", "v\t", "\n", "\r", "v\n", "\nv", "v\rw", "\r\n", "v\nw"} {
		fits(t, api.Tree{e("a", k("k", value))}, api.ErrFit)
		fits(t, api.Tree{e("a", k("j", ""), k("k", value), k("l", "v")), e("b")}, api.ErrFit)
	}
	for _, below := range []api.Tree{nil, {}, {e("v"), e("w")}, {e(""), e("v")}, {e("v", e(""))}, {e("", e(""))}, {e("v", e("w", e("x")))}, {e("v"), e("w", e("x"))}} {
		fits(t, api.Tree{e("a", e("k", below...))}, api.ErrFit)
		fits(t, api.Tree{e("a", k("j", "v"), e("k", below...), k("l", "v"))}, api.ErrFit)
		fits(t, api.Tree{e("a"), e("b", k("j", "v")), e("c", e("k", below...)), e("d")}, api.ErrFit)
	}
}

// cmpFit is what an edge ahead of one of that name makes of a tree that does not fit.
func cmpFit(ahead, name string) api.Errno {
	if name <= ahead {
		return api.ErrName
	}
	return api.ErrFit
}

// P602, P6: tree.Check's error comes ahead of ErrFit, wherever both stand.
func TestFitsCheck(t *testing.T) {
	deep := api.Tree{e(" ")}
	for range 12 {
		deep = api.Tree{e(" ", deep...)}
	}
	var many, row api.Tree
	for i := range 401 {
		many = append(many, e(fmt.Sprintf(" %03d", i)))
	}
	for i := range 400 {
		row = append(row, e(fmt.Sprintf("%03d", i)))
	}
	for i, x := range []struct {
		t    api.Tree
		want api.Errno
	}{
		{deep, api.ErrDeep}, {deep[0].T, api.ErrFit}, {many, api.ErrMany}, {many[1:], api.ErrFit}, {row, api.OK}, {append(row[:399:399], e("x", e("y"))), api.ErrMany}, {append(row[:397:397], e("x", k("y", "z"))), api.OK}, {append(row[:398:398], e("x", e("y"))), api.ErrFit},
		{api.Tree{e(x(81))}, api.ErrLong}, {api.Tree{e("a", k(x(81), "v"))}, api.ErrLong}, {api.Tree{e("a", k("k", x(81)))}, api.ErrLong}, {api.Tree{e(" a"), e("b", k("k", x(81)))}, api.ErrLong}, {api.Tree{e("a", e("k"), k("l", x(81)))}, api.ErrLong}, {api.Tree{e("a", e("k", e("v", e(x(81)))))}, api.ErrLong},
		{api.Tree{e("b"), e("a")}, api.ErrName}, {api.Tree{e("a"), e("a")}, api.ErrName}, {api.Tree{e("a", k("l", "v"), k("k", "v"))}, api.ErrName}, {api.Tree{e("a", k("k", "v"), k("k", "v"))}, api.ErrName}, {api.Tree{e("a", e("k", e("w"), e("v")))}, api.ErrName}, {api.Tree{e("["), e("a", e("k")), e("a")}, api.ErrName}, {api.Tree{e("a", e("k", e("v"), e("v")))}, api.ErrName},
	} {
		if got := ini.Fits(x.t); got != x.want {
			t.Errorf("P602: %d: %v, not %v", i, got, x.want)
		}
		for _, s := range []string{"", "[a]\nk=v\n"} {
			if made, err := ini.Put(x.t, s); err != x.want || err != api.OK && made != "" {
				t.Errorf("P603, P4: %d: %q, %v, not %v", i, made, err, x.want)
			}
		}
	}
}

// P602: each byte, at each place of a name and a value.
func TestFitsEveryByte(t *testing.T) {
	for n := range 256 {
		c := string([]byte{byte(n)})
		for _, s := range []string{c, c + "b", "b" + c, "b" + c + "c", c + c} {
			for _, x := range []api.Tree{{e(s)}, {e("a", k(s, "v"))}, {e("a", k("k", s))}, {e(s, k("k", "v"))}} {
				fits(t, x, plainFits(x))
			}
		}
	}
}

// P602: all short names and values of what counts, and trees of many kinds.
func TestFitsAll(t *testing.T) {
	for _, s := range over("[]=;# \t\n\ra", 4) {
		for _, x := range []api.Tree{{e(s)}, {e("a", k(s, "v"))}, {e("a", k("k", s))}} {
			if got, want := ini.Fits(x), plainFits(x); got != want {
				t.Fatalf("P602: %s: %v, not %v", tree.Text(x), got, want)
			}
		}
	}
	r := rand.New(rand.NewSource(6))
	for range 5000 {
		x := randomTree(r, true)
		fits(t, x, plainFits(x))
	}
}
