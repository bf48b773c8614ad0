package csv_test

import (
	"fmt"
	"math/rand"
	"strings"
	"testing"

	"cadence/api"
	"cadence/csv"
	"cadence/tree"
)

// fits asks Fits of a tree; and Create, that must answer the same, or a file that says it.
func fits(t *testing.T, x api.Tree, want api.Errno) {
	t.Helper()
	if got := csv.Fits(x); got != want {
		t.Errorf("P702: Fits(%.300s): %v, not %v", tree.Text(x), got, want)
	}
	s, err := csv.Create(x)
	if err != want || err != api.OK && s != "" {
		t.Errorf("P703, P4: Create(%.300s): %q, %v, not %v", tree.Text(x), s, err, want)
	}
	if err != api.OK {
		return
	}
	if y, line, err := csv.Load(s); err != api.OK || line != 0 || !tree.Same(x, y) {
		t.Errorf("P704: %.300s, created %q, is loaded as %s, %v", tree.Text(x), s, tree.Text(y), err)
	}
}

// P702: what fits.
func TestFits(t *testing.T) {
	for _, x := range []api.Tree{
		nil, {}, {e("a")}, {e("a"), e("b"), e("c d")}, {e("a", c("c", "v"))}, {e("a", c("c", "v"), c("d", "w")), e("b"), e("c", c("c", "x"), c("e", "y"))}, {e("key", c("Key", "key"))}, {e("key"), e("key ")}, {e(" ", c(" ", " "))}, {e("\t", c("\t", "\t"))}, {e(",", c(",", ","))}, {e(`"`, c(`"`, `"`))}, {e(`""`, c(`","`, `"a",b`))},
		{e("\x00\xff", c("\x00\xff", "\x00\xff"))}, {e("\x0b", c("\x0c", "\x0b"))}, {e("\u0085", c("\u2028", "\u00a0"))}, {e(x(80), c(x(80), x(80)))}, {e("a", c("a", "a"))}, {e("a", c(" key", "1"), c("key ", "2"), c("keys", "3"))}, {e("a,b", c("c\"d", "e,\"f"))}, {e("=", c(";", "#"), c("[a]", "b=c"))},
		{e(strings.Repeat(`"`, 80), c(strings.Repeat(",", 80), strings.Repeat(`",`, 40)))},
	} {
		fits(t, x, api.OK)
	}
}

// P702: what does not: names, values, and what is below them.
func TestFitsNot(t *testing.T) {
	for _, name := range []string{"", "\n", "\r", "\r\n", "a\n", "\na", "a\nb", "a\r", "\ra", "a\rb", "\"\n\"", x(79) + "\n"} {
		fits(t, api.Tree{e(name)}, api.ErrFit)
		fits(t, api.Tree{e(name, c("c", "v"))}, api.ErrFit)
		fits(t, api.Tree{e(name), e("~", c("c", "v"))}, api.ErrFit)
		fits(t, api.Tree{e("a", c(name, "v"))}, api.ErrFit)
		fits(t, api.Tree{e("a"), e("b", c(name, "v"), c("~", "v"))}, api.ErrFit)
		fits(t, api.Tree{e("a", c("c", name))}, api.ErrFit)
		fits(t, api.Tree{e("a", c("c", "v"), c("d", name), c("e", "v")), e("b")}, api.ErrFit)
	}
	fits(t, api.Tree{e("a", c("key", "v"))}, api.ErrFit)
	fits(t, api.Tree{e("a"), e("b", c("c", "v"), c("key", "v"), c("l", "w"))}, api.ErrFit)
	for _, below := range []api.Tree{nil, {}, {e("v"), e("w")}, {e(""), e("v")}, {e("v", e(""))}, {e("v", e("w"))}, {e("v", e("w", e("x")))}, {e("v"), e("w", e("x"))}} {
		fits(t, api.Tree{e("a", e("c", below...))}, api.ErrFit)
		fits(t, api.Tree{e("a", c("b", "v"), e("c", below...), c("d", "v"))}, api.ErrFit)
		fits(t, api.Tree{e("a"), e("b", c("b", "v")), e("c", e("c", below...)), e("d")}, api.ErrFit)
	}
}

// P702, P6: tree.Check's error comes ahead of ErrFit, wherever both stand.
func TestFitsCheck(t *testing.T) {
	deep := api.Tree{e("\n")}
	for range 12 {
		deep = api.Tree{e("\n", deep...)}
	}
	var many, row api.Tree
	for i := range 401 {
		many = append(many, e(fmt.Sprintf("\n%03d", i)))
	}
	for i := range 400 {
		row = append(row, e(fmt.Sprintf("%03d", i)))
	}
	for i, x := range []struct {
		t    api.Tree
		want api.Errno
	}{
		{deep, api.ErrDeep}, {deep[0].T, api.ErrFit}, {many, api.ErrMany}, {many[1:], api.ErrFit}, {row, api.OK}, {append(row[:399:399], e("x", e("y"))), api.ErrMany}, {append(row[:397:397], e("x", c("y", "z"))), api.OK}, {append(row[:398:398], e("x", e("y"))), api.ErrFit},
		{api.Tree{e(x(81))}, api.ErrLong}, {api.Tree{e("a", c(x(81), "v"))}, api.ErrLong}, {api.Tree{e("a", c("c", x(81)))}, api.ErrLong}, {api.Tree{e("\n"), e("b", c("c", x(81)))}, api.ErrLong}, {api.Tree{e("a", e("c"), c("d", x(81)))}, api.ErrLong}, {api.Tree{e("a", e("c", e("v", e(x(81)))))}, api.ErrLong}, {api.Tree{e("a", c("key", x(81)))}, api.ErrLong}, {api.Tree{e(strings.Repeat("é", 41))}, api.ErrLong},
		{api.Tree{e("b"), e("a")}, api.ErrName}, {api.Tree{e("a"), e("a")}, api.ErrName}, {api.Tree{e("a", c("d", "v"), c("c", "v"))}, api.ErrName}, {api.Tree{e("a", c("c", "v"), c("c", "v"))}, api.ErrName}, {api.Tree{e("a", e("c", e("w"), e("v")))}, api.ErrName}, {api.Tree{e(""), e("a", e("c")), e("a")}, api.ErrName}, {api.Tree{e("a", e("c", e("v"), e("v")))}, api.ErrName}, {api.Tree{e("a", c("key", "v"), c("c", "v"))}, api.ErrName},
	} {
		if got := csv.Fits(x.t); got != x.want {
			t.Errorf("P702: %d: %v, not %v", i, got, x.want)
		}
		for _, s := range []string{"key", "key,c\na,1\n"} {
			if made, err := csv.Put(x.t, s); err != x.want || err != api.OK && made != "" {
				t.Errorf("P703, P4: %d: %q, %v, not %v", i, made, err, x.want)
			}
		}
	}
}

// P702: each byte, at each place of a name and a value.
func TestFitsEveryByte(t *testing.T) {
	for n := range 256 {
		b := string([]byte{byte(n)})
		for _, s := range []string{b, b + "v", "v" + b, "v" + b + "w", b + b, "key" + b, b + "key"} {
			for _, x := range []api.Tree{{e(s)}, {e("a", c(s, "v"))}, {e("a", c("c", s))}, {e(s, c("c", "v"))}} {
				fits(t, x, plainFits(x))
			}
		}
	}
}

// P702: all short names and values of what counts, and trees of many kinds.
func TestFitsAll(t *testing.T) {
	for _, s := range over("key,\"\n\r ", 4) {
		for _, x := range []api.Tree{{e(s)}, {e("a", c(s, "v"))}, {e("a", c("c", s))}} {
			if got, want := csv.Fits(x), plainFits(x); got != want {
				t.Fatalf("P702: %s: %v, not %v", tree.Text(x), got, want)
			}
		}
	}
	r := rand.New(rand.NewSource(6))
	for range 5000 {
		x := randomTree(r, true)
		fits(t, x, plainFits(x))
	}
}
