package files_test

import (
	"math/rand"
	"strings"
	"testing"

	"cadence/api"
	"cadence/card"
	"cadence/csv"
	"cadence/files"
	"cadence/ini"
	"cadence/marks"
	"cadence/tree"
)

// e is an edge, and what is below it; c a content, of folders and links, or of blocks and props.
func e(name string, below ...api.Edge) api.Edge { return api.Edge{Name: name, T: below} }

func c(first, second string, a, b api.Tree) api.Tree {
	return api.Tree{e(first, a...), e(second, b...)}
}

// kinds are the forms' numbers.
func kinds() []int { return []int{api.FIni, api.FCsv, api.FCard, api.FMarks} }

// packFits, packLoad, packPut and packCreate are what the form's own package answers.
func packFits(kind int, t api.Tree) api.Errno {
	return []func(api.Tree) api.Errno{ini.Fits, csv.Fits, card.Fits, marks.Fits}[kind-1](t)
}

func packLoad(kind int, s string) (api.Tree, int, api.Errno) {
	return []func(string) (api.Tree, int, api.Errno){ini.Load, csv.Load, card.Load, marks.Load}[kind-1](s)
}

func packPut(kind int, t api.Tree, s string) (string, api.Errno) {
	return []func(api.Tree, string) (string, api.Errno){ini.Put, csv.Put, card.Put, marks.Put}[kind-1](t, s)
}

func packCreate(kind int, t api.Tree) (string, api.Errno) {
	return []func(api.Tree) (string, api.Errno){ini.Create, csv.Create, card.Create, marks.Create}[kind-1](t)
}

// someFiles are some of each form, and some that are none.
func someFiles() []string {
	return []string{
		"", "\n", "x", "[a", "key,a\nx", "BEGIN:A\n", "<!MARKS>\n<DL>\n", "\r", " ; \n[",
		"[a]\nk=v\n", "; r\r\n[b]\r\n[a]\r\n k = w\r\nl=", "[a]\nk=v\n[a]\n",
		"key\n", "key,a\nx,1\n", "key,b,a\r\ny,\"1\",\r\nx,,2", "key,a,a\n",
		"BEGIN:A\nID:x\nEND:A\n", "BEGIN:A\r\n\r\nN:1\r\nID:x\r\nN:\\n\r\nBEGIN:B\r\nID:y\r\nEND:B\r\nEND:A", "BEGIN:A\nEND:A\n", strings.Repeat("BEGIN:A\nID:x\n", 4),
		"<!MARKS>\n<DL>\n</DL>\n", "<!MARKS>\n<DL>\n<A HREF=\"u\">t</A>\n<H3>f</H3>\n<DL>\n</DL>\n</DL>\n", " <!MARKS>\r\n<DL>\r\n\r\n<H3>g</H3>\r\n<DL>\r\n<A HREF=\"v\">&amp;</A>\r\n</DL>\r\n</DL>", "<!MARKS>\n" + strings.Repeat("<DL>\n<H3>f</H3>\n", 5),
	}
}

// someTrees fit some form, or none.
func someTrees() []api.Tree {
	none := c("blocks", "props", nil, nil)
	one := c("blocks", "props", api.Tree{e("B", e("y", none...))}, api.Tree{e("N", e("1"), e("\n"))})
	flat := c("folders", "links", nil, api.Tree{e("u", e("t"))})
	return []api.Tree{
		nil, {}, {e("a")}, {e("a", e("k"))}, {e("a", e("k", e("v"))), e("b")}, {e("a", e("k", e(""))), e("b", e("l", e("w")))}, {e("a", e("k", e("v"), e("w")))}, {e("a", e("k", e("v", e("x"))))},
		{e("A", e("x", none...))}, {e("A", e("x", one...), e("z", none...)), e("C", e("", none...))}, {e("A", e("x", one...))}, {e("A")}, {e("A", e("x"))}, {e("a b", e("x", none...))}, none, one,
		c("folders", "links", nil, nil), flat, c("folders", "links", api.Tree{e("f", flat...), e("g", flat...)}, api.Tree{e("w", e(""))}), {e("folders")}, c("folders", "links", api.Tree{e("f")}, nil), c("folders", "links", nil, api.Tree{e("u")}),
		{e("b"), e("a")}, {e("a"), e("a")}, {e(strings.Repeat("x", 81))}, {e("\n")},
	}
}

// asPack asks whether each call answers what the form's own package answers.
func asPack(t *testing.T, kind int, x api.Tree, s string) {
	t.Helper()
	got, line, err := files.Load(kind, s)
	want, at, e := packLoad(kind, s)
	if err != e || line != at || tree.Text(got) != tree.Text(want) {
		t.Errorf("P1001: Load(%d, %q): %s, %d, %v, not %s, %d, %v", kind, s, tree.Text(got), line, err, tree.Text(want), at, e)
	}
	if got, want := files.Fits(kind, x), packFits(kind, x); got != want {
		t.Errorf("P1001: Fits(%d, %s): %v, not %v", kind, tree.Text(x), got, want)
	}
	made, err := files.Put(kind, x, s)
	if want, e := packPut(kind, x, s); made != want || err != e {
		t.Errorf("P1001: Put(%d, %s, %q): %q, %v, not %q, %v", kind, tree.Text(x), s, made, err, want, e)
	}
	made, err = files.Create(kind, x)
	if want, e := packCreate(kind, x); made != want || err != e {
		t.Errorf("P1001: Create(%d, %s): %q, %v, not %q, %v", kind, tree.Text(x), made, err, want, e)
	}
}

// P1001: each form has its own, whatever comes.
func TestAsPacks(t *testing.T) {
	for _, kind := range kinds() {
		for _, s := range someFiles() {
			for _, x := range someTrees() {
				asPack(t, kind, x, s)
			}
			for _, other := range kinds() {
				x, _, _ := packLoad(other, s)
				asPack(t, kind, x, s)
			}
		}
	}
}

// P1001: files put together of lines of all forms.
func TestAsPacksAny(t *testing.T) {
	pieces := strings.Split("[a]|[b]|k=v|k=|; r|key|key,a|x,1|x|a,b|\"|BEGIN:A|END:A|ID:x|N:1|<!MARKS>|<DL>|</DL>|<H3>f</H3>|<A HREF=\"u\">t</A>|", "|")
	r := rand.New(rand.NewSource(10))
	trees := someTrees()
	for range 20000 {
		var s strings.Builder
		for range r.Intn(7) {
			s.WriteString(pieces[r.Intn(len(pieces))] + []string{"\n", "\n", "\n", "\r\n", ""}[r.Intn(5)])
		}
		asPack(t, kinds()[r.Intn(4)], trees[r.Intn(len(trees))], s.String())
	}
}

// put is a tree, a file, and what Put must answer.
type put struct {
	kind  int
	t     api.Tree
	s     string
	made  string
	fresh string // what Create must answer
	want  api.Errno
}

func puts() []put {
	value := api.Tree{e("a", e("k", e("v")))}
	block := api.Tree{e("A", e("x", c("blocks", "props", nil, api.Tree{e("N", e("1"))})...))}
	links := c("folders", "links", nil, api.Tree{e("u", e("t"))})
	return []put{
		{api.FIni, value, "; r\n[a]\nk = w\n", "; r\n[a]\nk = v\n", "[a]\nk=v\n", api.OK},
		{api.FCsv, value, "key,l,\"k\"\nb,1,2\n", "key,l,\"k\"\na,,v\n", "key,k\na,v\n", api.OK},
		{api.FCard, block, "\nBEGIN:A\nID:x\n\nEND:A\n", "\nBEGIN:A\nID:x\nN:1\n\nEND:A\n", "BEGIN:A\nID:x\nN:1\nEND:A\n", api.OK},
		{api.FMarks, links, "<!MARKS>\n\n<DL>\n <A HREF=\"u\">1</A>\n</DL>\n", "<!MARKS>\n\n<DL>\n <A HREF=\"u\">t</A>\n</DL>\n", "<!MARKS>\n<DL>\n<A HREF=\"u\">t</A>\n</DL>\n", api.OK},
		{api.FIni, block, "", "", "", api.ErrFit}, {api.FCsv, block, "key\n", "", "", api.ErrFit}, {api.FCard, value, "", "", "", api.ErrFit}, {api.FMarks, nil, "<!MARKS>\n<DL>\n</DL>\n", "", "", api.ErrFit},
	}
}

// P1001: Fits, Put and Create of each form, as its chapter has them.
func TestPut(t *testing.T) {
	for _, x := range puts() {
		if err := files.Fits(x.kind, x.t); err != x.want {
			t.Errorf("P1001: Fits(%d, %s): %v, not %v", x.kind, tree.Text(x.t), err, x.want)
		}
		if made, err := files.Put(x.kind, x.t, x.s); made != x.made || err != x.want {
			t.Errorf("P1001, P4: Put(%d, %s, %q): %q, %v, not %q, %v", x.kind, tree.Text(x.t), x.s, made, err, x.made, x.want)
		}
		if made, err := files.Create(x.kind, x.t); made != x.fresh || err != x.want {
			t.Errorf("P1001, P4: Create(%d, %s): %q, %v, not %q, %v", x.kind, tree.Text(x.t), made, err, x.fresh, x.want)
		}
	}
}

// full are files of 4000 bytes, one of each form.
func full() []string {
	blank := func(s string) string { return strings.Repeat("\n", 4000-len(s)) + s }
	rows := "key\n"
	for i := range 50 {
		rows += strings.Repeat(string(rune('0'+i)), min(79, 3999-len(rows))) + "\n"
	}
	return []string{blank(""), rows, blank(""), blank("<!MARKS>\n<DL>\n</DL>\n")}
}

// P1001, P6: of any form, the file's error ahead of the tree's, and both ahead of what is too long.
func TestPutErrors(t *testing.T) {
	bad := api.Tree{e("b"), e("a")}
	fine := []api.Tree{{e("~")}, {e("~")}, {e("A", e("x", c("blocks", "props", nil, nil)...))}, c("folders", "links", nil, api.Tree{e("u", e("t"))})}
	for i, kind := range kinds() {
		s := full()[i]
		x, _, err := files.Load(kind, s)
		if err != api.OK || len(s) != 4000 {
			t.Fatalf("P1001: Load(%d), %d bytes: %v", kind, len(s), err)
		}
		if kind == api.FCsv {
			fine[i] = tree.Put(x, []string{"~"}, nil)
		}
		for _, y := range []struct {
			t    api.Tree
			s    string
			made string
			want api.Errno
		}{{bad, "[x", "", api.ErrLine}, {bad, s + "\n", "", api.ErrLong}, {bad, s, "", api.ErrName}, {fine[i], s, "", api.ErrLong}, {fine[i], "[x", "", api.ErrLine}, {x, s, s, api.OK}} {
			if made, err := files.Put(kind, y.t, y.s); made != y.made || err != y.want {
				t.Errorf("P1001, P4, P6: Put(%d, %.100s, %.100q): %.100q, %v, not %v", kind, tree.Text(y.t), y.s, made, err, y.want)
			}
		}
		if made, err := files.Create(kind, bad); made != "" || err != api.ErrName || files.Fits(kind, bad) != api.ErrName {
			t.Errorf("P1001, P4: Create(%d): %q, %v", kind, made, err)
		}
	}
}
