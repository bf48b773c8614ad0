package card_test

import (
	"fmt"
	"math/rand"
	"strings"
	"testing"

	"cadence/api"
	"cadence/card"
	"cadence/tree"
)

// puts asks what a tree makes of a file; what is made says the tree (P804).
func puts(t *testing.T, x api.Tree, s, want string) {
	t.Helper()
	got, err := card.Put(x, s)
	if err != api.OK || got != want {
		t.Errorf("P803: %.300s into %.300q: %.300q, %v, not %.300q", tree.Text(x), s, got, err, want)
	}
	if y, _, err := card.Load(got); err != api.OK || !tree.Same(x, y) {
		t.Errorf("P804: %.300s into %.300q: loaded %.300s, %v", tree.Text(x), s, tree.Text(y), err)
	}
}

// one is a block's text: its word, its id, the lines between.
func one(word, id string, l ...string) string {
	return "BEGIN:" + word + "\nID:" + id + "\n" + strings.Join(l, "") + "END:" + word + "\n"
}

// P803: Create.
func TestCreate(t *testing.T) {
	for _, x := range []struct {
		t    api.Tree
		want string
	}{
		{nil, ""}, {c(), one("A", "x")}, {c(p("N", "")), one("A", "x", "N:\n")}, {c(p("M", " 2", "1"), p("N", "", "\n")), one("A", "x", "M: 2\n", "M:1\n", "N:\n", "N:\\n\n")}, {c(p("A", "x"), p("A-", "w")), one("A", "x", "A:x\n", "A-:w\n")},
		{c(p("N", "\n\n", "\r\n", "\\", "\\n", "a\\\nb\r\\")), one("A", "x", `N:\n\n`+"\n", `N:\r\n`+"\n", `N:\\`+"\n", `N:\\n`+"\n", `N:a\\\nb\r\\`+"\n")}, {api.Tree{e("A", b(`\`, nil, nil), b(`a\n`, nil, nil))}, one("A", `\\`) + one("A", `a\\n`)}, {api.Tree{e("-", b("y", nil, nil)), e("0", b(" ", nil, nil), b("x", nil, nil)), e("A", b("a", nil, nil)), e("A-", b("0", nil, nil))}, one("-", "y") + one("0", " ") + one("0", "x") + one("A", "a") + one("A-", "0")},
		{api.Tree{e("A", b("x", api.Tree{e("A", b("x", api.Tree{e("A", b("x", nil, api.Tree{p("N", "3")})), e("Z", b("z", nil, nil))}, api.Tree{p("Z", "2")}))}, api.Tree{p("Z", "1")}), b("y", nil, nil))}, one("A", "x", "Z:1\n", one("A", "x", "Z:2\n", one("A", "x", "N:3\n"), one("Z", "z"))) + one("A", "y")}, {c(p("N", "\x00\xff\t:\"")), one("A", "x", "N:\x00\xff\t:\"\n")},
	} {
		if got, err := card.Create(x.t); got != x.want || err != api.OK {
			t.Errorf("P803: Create(%s): %q, %v, not %q", tree.Text(x.t), got, err, x.want)
		}
		puts(t, x.t, "", x.want)
		puts(t, x.t, "\n", "\n"+x.want)
		puts(t, x.t, "\r\n", "\r\n"+strings.ReplaceAll(x.want, "\n", "\r\n"))
		puts(t, x.t, one("Q", "q", "N:1\n", one("A", "x")), x.want)
		puts(t, x.t, x.want, x.want)
		puts(t, x.t, " \t\n"+one("Q", "q")+"\t\n", " \t\n\t\n"+x.want)
	}
}

// P803: what stays: blanks, order, places of ids.
func TestPutStays(t *testing.T) {
	s := "\n \r\nBEGIN:B\r\nN:2\n\nBEGIN:A\nID:x\nEND:A\n\t\nN:1\r\nID: y\n\nBEGIN:C\n\nID:z\nEND:C\nM:\\\\\nEND:B\n\t\nBEGIN:A\nID:x\n\nEND:A\n "
	props, below := api.Tree{p("M", `\`), p("N", "1", "2")}, api.Tree{e("A", b("x", nil, nil)), e("C", b("z", nil, nil))}
	block, last := e("B", b(" y", below, props)), c()[0]
	puts(t, api.Tree{last, block}, s, s)
	puts(t, api.Tree{block}, s, strings.Replace(s, "BEGIN:A\nID:x\n\nEND:A\n", "", 1))
	puts(t, api.Tree{last}, s, "\n \r\n\t\nBEGIN:A\nID:x\n\nEND:A\n ")
	puts(t, nil, s, "\n \r\n\t\n ")
	puts(t, api.Tree{last, e("B", b(" y", below[:1], props))}, s, strings.Replace(s, "BEGIN:C\n\nID:z\nEND:C\n", "", 1))
	puts(t, api.Tree{last, e("B", b(" y", below[1:], props))}, s, strings.Replace(s, "BEGIN:A\nID:x\nEND:A\n", "", 1))
	puts(t, api.Tree{last, e("B", b(" y", below, props[:1]))}, s, strings.NewReplacer("N:2\n", "", "N:1\r\n", "").Replace(s))
	puts(t, api.Tree{last, e("B", b(" y", below, api.Tree{props[0], p("N", "2")}))}, s, strings.Replace(s, "N:1\r\n", "", 1))
	puts(t, api.Tree{last, e("B", b(" y", below, props[1:]))}, s, strings.Replace(s, "M:\\\\\n", "", 1))
	puts(t, api.Tree{last, e("B", b(" y", nil, nil))}, s, "\n \r\nBEGIN:B\r\n\n\t\nID: y\n\nEND:B\n\t\nBEGIN:A\nID:x\n\nEND:A\n ")
}

// P803: what goes, and only that: of blocks with one word, with one id, in other blocks.
func TestPutGoes(t *testing.T) {
	ax, ay, bx := one("A", "x", "N:1\n"), one("A", "y", "N:1\n", "\n"), one("B", "x", "N:1\n")
	n := api.Tree{p("N", "1")}
	x, y := b("x", nil, n), b("y", nil, n)
	puts(t, api.Tree{e("A", x)}, ax+ay+bx, ax)
	puts(t, api.Tree{e("A", y)}, ax+ay+bx, ay)
	puts(t, api.Tree{e("B", x)}, ax+ay+bx, bx)
	puts(t, api.Tree{e("A", y), e("B", x)}, ax+"\n"+ay+"\n"+bx, "\n"+ay+"\n"+bx)
	puts(t, api.Tree{e("A", x, y)}, bx+ay+ax, ay+ax)
	puts(t, api.Tree{e("B", b("x", nil, nil))}, ax+ay+bx, one("B", "x"))
	puts(t, api.Tree{e("A", x, b("y", nil, nil)), e("B", x)}, ax+ay+bx, ax+one("A", "y", "\n")+bx)
	puts(t, api.Tree{e("A", b("x", api.Tree{e("A", x)}, nil))}, one("A", "x", ax, "N:1\n", bx), one("A", "x", ax))
	puts(t, api.Tree{e("A", b("x", api.Tree{e("A", b("x", nil, nil))}, n))}, one("A", "x", ax, "N:1\n", ay), one("A", "x", one("A", "x"), "N:1\n"))
	puts(t, api.Tree{e("A", b("x", nil, nil))}, one("A", "x", one("A", "x", one("A", "x"), ay), bx), one("A", "x"))
	puts(t, api.Tree{e("A", b("x", api.Tree{e("B", b("x", c(), nil))}, nil))}, one("A", "x", one("B", "x", bx, one("A", "x"), ay), ax), one("A", "x", one("B", "x", one("A", "x"))))
	puts(t, api.Tree{e("A", x)}, one("B", "x", ax), ax)
	puts(t, api.Tree{e("B", b("x", api.Tree{e("A", x)}, nil))}, ax, one("B", "x", ax))
}

// P803: new values stand right behind the ID's line, in order; values are written with backslashes where they must be.
func TestPutValues(t *testing.T) {
	for _, x := range []struct {
		t       api.Tree
		s, want string
	}{
		{c(p("N", "1")), "BEGIN:A\nID:x\nEND:A", "BEGIN:A\nID:x\nN:1\nEND:A"}, {c(p("N", "1")), "BEGIN:A\n\nID:x\n\nEND:A\n", "BEGIN:A\n\nID:x\nN:1\n\nEND:A\n"}, {c(p("M", "1", "2", "3"), p("N", "1")), "BEGIN:A\nN:1\nM:2\nID:x\nEND:A\n", "BEGIN:A\nN:1\nM:2\nID:x\nM:1\nM:3\nEND:A\n"}, {c(p("M", "2"), p("N", "1")), "BEGIN:A\nM:1\nID:x\nN:2\nEND:A\n", "BEGIN:A\nID:x\nM:2\nN:1\nEND:A\n"},
		{c(p("-", "b"), p("0", "a"), p("A", "", " "), p("A-", "\n", "\\")), "BEGIN:A\nID:x\nA: \nEND:A\n", "BEGIN:A\nID:x\n-:b\n0:a\nA:\nA-:\\n\nA-:\\\\\nA: \nEND:A\n"}, {c(p("N", "\n", "\r", "\\", "\\n", "n", "r")), "BEGIN:A\nID:x\nN:\\\\n\nEND:A\n", "BEGIN:A\nID:x\nN:\\n\nN:\\r\nN:\\\\\nN:n\nN:r\nN:\\\\n\nEND:A\n"}, {c(p("N", "1")), "BEGIN:A\nID:x\nN: 1\nEND:A\n", "BEGIN:A\nID:x\nN:1\nEND:A\n"}, {c(p("N", "")), "BEGIN:A\nID:x\nN:\\n\nEND:A\n", "BEGIN:A\nID:x\nN:\nEND:A\n"},
		{api.Tree{e("A", b("x", api.Tree{e("B", b("y", nil, api.Tree{p("N", "2")}))}, api.Tree{p("N", "1")}))}, "BEGIN:A\nBEGIN:B\nID:y\nEND:B\nID:x\nEND:A\n", "BEGIN:A\nBEGIN:B\nID:y\nN:2\nEND:B\nID:x\nN:1\nEND:A\n"}, {api.Tree{e("A", b("x", api.Tree{e("B", b("y", nil, api.Tree{p("N", "2")}))}, api.Tree{p("N", "1")}))}, "BEGIN:A\nID:x\nBEGIN:B\n\nID:y\nN:1\nEND:B\nN:2\nEND:A\n", "BEGIN:A\nID:x\nN:1\nBEGIN:B\n\nID:y\nN:2\nEND:B\nEND:A\n"}, {api.Tree{e("A", b("x", nil, api.Tree{p("N", "1")}), b("y", nil, api.Tree{p("N", "2")}))}, "BEGIN:A\nID:y\nEND:A\nBEGIN:A\nN:2\nID:x\nEND:A\n", "BEGIN:A\nID:y\nN:2\nEND:A\nBEGIN:A\nID:x\nN:1\nEND:A\n"},
		{c(p("N", strings.Repeat("\n", 80), x(80))), one("A", "x"), one("A", "x", "N:"+strings.Repeat(`\n`, 80)+"\n", "N:"+x(80)+"\n")},
	} {
		puts(t, x.t, x.s, x.want)
	}
}

// P803: new blocks stand right ahead of their block's END, or at the end, in order.
func TestPutBlocks(t *testing.T) {
	n := func(value string) api.Tree { return api.Tree{p("N", value)} }
	for _, x := range []struct {
		t       api.Tree
		s, want string
	}{
		{api.Tree{e("A", b("w", nil, nil), b("x", nil, nil), b("y", nil, nil)), e("B", b("a", nil, nil))}, one("A", "x") + "\n\t\n", one("A", "x") + "\n\t\n" + one("A", "w") + one("A", "y") + one("B", "a")}, {api.Tree{e("A", b("y", nil, nil)), e("A-", b("x", nil, nil)), e("B", b("x", nil, nil)), e("C", b("x", nil, nil))}, one("B", "x"), one("B", "x") + one("A", "y") + one("A-", "x") + one("C", "x")},
		{api.Tree{e("A", b("x", api.Tree{e("A", b("w", nil, nil), b("x", nil, n("2"))), e("B", b("x", nil, nil))}, n("1")))}, "BEGIN:A\nID:x\n\nBEGIN:A\nID:x\nEND:A\n\nEND:A\n", "BEGIN:A\nID:x\nN:1\n\nBEGIN:A\nID:x\nN:2\nEND:A\n\n" + one("A", "w") + one("B", "x") + "END:A\n"}, {api.Tree{e("A", b("x", api.Tree{e("B", b("y", nil, nil))}, n("1")))}, "BEGIN:A\nID:x\nEND:A", "BEGIN:A\nID:x\nN:1\nBEGIN:B\nID:y\nEND:B\nEND:A"}, {api.Tree{e("A", b("x", api.Tree{e("B", b("y", nil, nil))}, n("1")))}, "BEGIN:A\nID:x\nBEGIN:A\nID:x\nEND:A\nN:2\nEND:A\n", "BEGIN:A\nID:x\nN:1\nBEGIN:B\nID:y\nEND:B\nEND:A\n"}, {api.Tree{e("A", b("x", api.Tree{e("B", b("y", nil, nil))}, nil))}, "BEGIN:A\nID:x\nN:1\n\nEND:A\n", "BEGIN:A\nID:x\n\nBEGIN:B\nID:y\nEND:B\nEND:A\n"},
		{api.Tree{e("A", b("x", api.Tree{e("B", b("y", api.Tree{e("C", b("v", nil, nil), b("z", nil, n("3")))}, n("2")))}, n("1")))}, one("A", "x", one("B", "y", one("C", "v"))), one("A", "x", "N:1\n", one("B", "y", "N:2\n", one("C", "v"), one("C", "z", "N:3\n")))}, {api.Tree{e("A", b("x", api.Tree{e("B", b("y", api.Tree{e("C", b("z", nil, nil))}, nil)), e("D", b("q", c(), nil))}, nil))}, one("A", "x", one("B", "y"), one("D", "p")), one("A", "x", one("B", "y", one("C", "z")), one("D", "q", one("A", "x")))}, {api.Tree{e("A", b("y", nil, nil)), e("B", b(`\`, nil, n("\r")))}, "\n" + one("A", "x", one("A", "y")), "\n" + one("A", "y") + one("B", `\\`, "N:\\r\n")},
	} {
		puts(t, x.t, x.s, x.want)
	}
}

// P803: how new lines end, and what lacked an end.
func TestPutEnds(t *testing.T) {
	some := api.Tree{e("A", b("x", nil, api.Tree{p("N", "1")})), e("B", b("y", nil, nil))}
	crlf := func(s string) string { return strings.ReplaceAll(s, "\n", "\r\n") }
	fresh := "BEGIN:B\nID:y\nEND:B\n"
	for _, x := range []struct {
		t       api.Tree
		s, want string
	}{
		{some, "BEGIN:A\nID:x\nEND:A", "BEGIN:A\nID:x\nN:1\nEND:A\n" + fresh}, {some, "BEGIN:A\r\nID:x\nEND:A", "BEGIN:A\r\nID:x\nN:1\r\nEND:A\r\n" + crlf(fresh)}, {some, "BEGIN:A\nID:x\r\nN:1\r\nEND:A\r\n", "BEGIN:A\nID:x\r\nN:1\r\nEND:A\r\n" + fresh}, {some, "\r\nBEGIN:A\nID:x\nEND:A\n", "\r\nBEGIN:A\nID:x\nN:1\r\nEND:A\n" + crlf(fresh)}, {some, " ", " \nBEGIN:A\nID:x\nN:1\nEND:A\n" + fresh}, {some, "\r\n ", "\r\n \r\n" + crlf("BEGIN:A\nID:x\nN:1\nEND:A\n"+fresh)}, {some, "\n\r\n\t", "\n\r\n\t\nBEGIN:A\nID:x\nN:1\nEND:A\n" + fresh},
		{some, "BEGIN:Q\r\nID:x\nEND:Q\nBEGIN:A\nID:x\nN:1\nEND:A", "BEGIN:A\nID:x\nN:1\nEND:A\r\n" + crlf(fresh)}, {some, "BEGIN:Q\nID:x\r\nEND:Q\r\nBEGIN:A\r\nID:x\r\nN:1\r\nEND:A\r\n ", "BEGIN:A\r\nID:x\r\nN:1\r\nEND:A\r\n \n" + fresh}, {some, "BEGIN:A\r\nID:x\nN:1\nEND:A\nBEGIN:Q\nID:x\nEND:Q", "BEGIN:A\r\nID:x\nN:1\nEND:A\n" + crlf(fresh)}, {some, "BEGIN:B\r\nID:y\nEND:B\nBEGIN:A\nID:x\nEND:A", "BEGIN:B\r\nID:y\nEND:B\nBEGIN:A\nID:x\nN:1\r\nEND:A"}, {some, "BEGIN:B\nID:y\nEND:B\nBEGIN:A\nN:1\nID:x\nEND:A", "BEGIN:B\nID:y\nEND:B\nBEGIN:A\nN:1\nID:x\nEND:A"},
		{some[:1], "BEGIN:A\r\nID:x\nN:1\nEND:A\nBEGIN:Q\nID:x\nEND:Q", "BEGIN:A\r\nID:x\nN:1\nEND:A\n"}, {some[:1], "BEGIN:Q\nID:x\nEND:Q\r\n\t", "\t\nBEGIN:A\nID:x\nN:1\nEND:A\n"}, {nil, "BEGIN:Q\r\nID:x\nEND:Q", ""}, {nil, "\r\nBEGIN:Q\r\nID:x\nEND:Q\n\n ", "\r\n\n "}, {nil, " ", " "}, {some[1:], "BEGIN:Q\r\nID:x\r\nEND:Q", crlf(fresh)},
	} {
		puts(t, x.t, x.s, x.want)
	}
}

// P803, P6: Load's error of the file, then Fits' of the tree, then ErrLong; P4: nothing beside them.
func TestPutErrors(t *testing.T) {
	fine, unfit, wrong, wide := c(), api.Tree{e("A")}, api.Tree{e("B"), e("A")}, api.Tree{}
	for i := range 60 {
		wide = append(wide, e(fmt.Sprintf("A%02d", i), b(x(80), nil, nil)))
	}
	bad := map[string]api.Errno{"x": api.ErrLine, "N:1\n": api.ErrLine, "BEGIN:A\nEND:A": api.ErrLine, "BEGIN:A\nID:x\n": api.ErrLine, "\n\r ": api.ErrLine, "BEGIN:A\nID:x\nID:x\n": api.ErrTwice, one("A", "x") + one("A", "x"): api.ErrTwice, strings.Repeat("BEGIN:A\n", 4): api.ErrDeep, strings.Repeat("\n", 4001): api.ErrLong, heap(396): api.ErrMany}
	for s, want := range bad {
		for i, x := range []api.Tree{nil, fine, unfit, wrong, wide} {
			if got, err := card.Put(x, s); got != "" || err != want {
				t.Errorf("P803, P4, P6: %d into %.30q: %q, %v, not %v", i, s, got, err, want)
			}
		}
	}
	for _, s := range []string{"", one("A", "x"), strings.Repeat("\n", 4000), heap(395)} {
		for i, want := range []api.Errno{api.ErrFit, api.ErrName, api.ErrLong} {
			if got, err := card.Put([]api.Tree{unfit, wrong, wide}[i], s); got != "" || err != want {
				t.Errorf("P803, P4, P6: %d into %.30q: %q, %v, not %v", i, s, got, err, want)
			}
		}
	}
	if got, err := card.Create(wide); got != "" || err != api.ErrLong {
		t.Errorf("P803, P4: %q, %v", got, err)
	}
}

// P803: 4000 bytes are not too many, 4001 are: of what is made, not of what was there.
func TestPutLong(t *testing.T) {
	long := func(x api.Tree, s string) {
		t.Helper()
		if got, err := card.Put(x, s); got != "" || err != api.ErrLong {
			t.Errorf("P803: %d bytes, %v", len(got), err)
		}
	}
	empty := one("A", "x")
	blanks := strings.Repeat("\n", 4000-len(empty))
	puts(t, c(), blanks, blanks+empty)
	long(c(), blanks+"\n")
	puts(t, c(), blanks[2:]+" ", blanks[2:]+" \n"+empty)
	long(c(), blanks[1:]+" ")
	long(c(), "\r\n"+blanks[2:])
	puts(t, c(), empty+blanks, empty+blanks)
	long(c(p("N", "")), empty+blanks)
	long(c(p("N", "")), empty+blanks[2:])
	puts(t, c(p("N", "")), empty+blanks[3:], one("A", "x", "N:\n")+blanks[3:])
	long(c(p("N", "\n")), empty+blanks[4:])
	puts(t, c(p("N", "\n")), empty+blanks[5:], one("A", "x", "N:\\n\n")+blanks[5:])
	puts(t, c(p("N", "2")), one("A", "x", "N:1\n")+blanks[4:], one("A", "x", "N:2\n")+blanks[4:])
	long(c(p("N", "22")), one("A", "x", "N:1\n")+blanks[4:])
	puts(t, nil, empty+blanks, blanks)
	puts(t, api.Tree{e("B", b("x", nil, nil))}, empty+blanks, blanks+one("B", "x"))
	long(api.Tree{e("B", b("xy", nil, nil))}, empty+blanks)
}

// same holds Put against the chapter anew, and against P804.
func same(t *testing.T, x api.Tree, s string) {
	t.Helper()
	got, err := card.Put(x, s)
	if want, fault := plainPut(x, s); got != want || err != fault {
		t.Fatalf("P803: %s into %q: %q, %v, not %q, %v", tree.Text(x), s, got, err, want, fault)
	}
	if err != api.OK {
		return
	}
	if y, _, fault := card.Load(got); fault != api.OK || !tree.Same(x, y) {
		t.Fatalf("P804: %s into %q: %q, loaded as %s, %v", tree.Text(x), s, got, tree.Text(y), fault)
	}
	if again, fault := card.Put(x, got); fault != api.OK || again != got {
		t.Fatalf("P804: %s into %q: %q, put again %q, %v", tree.Text(x), s, got, again, fault)
	}
}

// P803, P804: all short files that may be, with some trees each.
func TestPutAll(t *testing.T) {
	n := api.Tree{p("M", "1"), p("N", "2")}
	trees := []api.Tree{nil, c(), c(n...), {e("A", b("x", c(), nil))}, {e("A", b("w", nil, nil), b("y", c(n...), n))}, {e("A", b("x", api.Tree{e("A", b("x", nil, n), b("y", nil, nil))}, n)), e("B", b("x", nil, nil))}}
	for _, s := range over([]string{"BEGIN:A\n", "END:A\r\n", "ID:x\n", "ID:y\r\n", "N:1\n", "N:2\n", "\n"}, 6) {
		for _, s := range []string{s, strings.TrimSuffix(s, "\n"), "BEGIN:A\nID:x\n" + s + "END:A", "BEGIN:A\r\n" + s + "ID:y\n\nEND:A\r\n"} {
			if old, _, err := plainLoad(s); err == api.OK {
				same(t, old, s)
				for _, x := range trees {
					same(t, x, s)
				}
			}
		}
	}
}

// P803, P804: files and trees of many kinds, and each file's own tree, as it is and changed.
func TestPutRandom(t *testing.T) {
	r := rand.New(rand.NewSource(6))
	for range 2500 {
		s := randomFile(r)
		old, _, err := card.Load(s)
		if err != api.OK {
			t.Fatalf("P802: %q: %v", s, err)
		}
		if got, err := card.Put(old, s); got != s || err != api.OK {
			t.Fatalf("P804: %q is put back as %q, %v", s, got, err)
		}
		same(t, randomTree(r, false), s)
		x := old
		for range 3 {
			x = changed(r, x)
			same(t, x, s)
		}
	}
}

// changed is a tree with one change that fits.
func changed(r *rand.Rand, x api.Tree) api.Tree {
	var paths [][]string
	walk(x, nil, func(path []string) { paths = append(paths, path) })
	for range 20 {
		y := tree.Put(x, []string{pick(r, someWords()), pick(r, someIDs())}, b("", randomBlocks(r, 1), nil).T)
		if len(paths) > 0 {
			path := paths[r.Intn(len(paths))]
			switch len(path) % 3 {
			case 1:
				y = tree.Drop(x, path)
			case 2:
				y = tree.Put(x, path, b("", randomBlocks(r, 2), nil).T)
			default:
				y = tree.Put(x, append(path, pick(r, someNames()), pick(r, someValues())), nil)
			}
			if r.Intn(3) == 0 {
				y = tree.Drop(x, path)
			}
		}
		if plainFits(y) == api.OK {
			return y
		}
	}
	return x
}

// P803: of any file and any tree: Load's error, or Fits', or what the chapter makes of them.
func TestPutOdd(t *testing.T) {
	r := rand.New(rand.NewSource(7))
	for range 6000 {
		s, x := randomFile(r), randomTree(r, true)
		if r.Intn(2) == 0 {
			s = spoilt(r, s)
		}
		_, _, want := plainLoad(s)
		if want == api.OK {
			want = plainFits(x)
		}
		if want == api.OK {
			same(t, x, s)
		} else if got, err := card.Put(x, s); got != "" || err != want {
			t.Fatalf("P803, P6: %s into %q: %q, %v, not %v", tree.Text(x), s, got, err, want)
		}
	}
}
