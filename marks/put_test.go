package marks_test

import (
	"fmt"
	"math/rand"
	"strings"
	"testing"

	"cadence/api"
	"cadence/marks"
	"cadence/tree"
)

// puts asks what a tree makes of a file; what is made says the tree (P904).
func puts(t *testing.T, x api.Tree, s, want string) {
	t.Helper()
	got, err := marks.Put(x, s)
	if err != api.OK || got != want {
		t.Errorf("P903: %.300s into %.300q: %.300q, %v, not %.300q", tree.Text(x), s, got, err, want)
	}
	if y, _, err := marks.Load(got); err != api.OK || !tree.Same(x, y) {
		t.Errorf("P904: %.300s into %.300q: loaded %.300s, %v", tree.Text(x), s, tree.Text(y), err)
	}
}

// crlf is a file whose lines end by both bytes.
func crlf(s string) string { return strings.ReplaceAll(s, "\n", "\r\n") }

// P903: Create, and Put into files that say nothing, or something else.
func TestCreate(t *testing.T) {
	for _, x := range []struct {
		t    api.Tree
		want string
	}{
		{c(nil), file()}, {c(nil, l("u", "")), file(link("u", ""))}, {c(nil, l("B", "1"), l("a", " 2 "), l("b", "3"), l("é", "4")), file(link("B", "1"), link("a", " 2 "), link("b", "3"), link("é", "4"))}, {c(nil, l(`"&<>`, `<b> & "q"`), l("&amp;", "&lt;")), file(link("&quot;&amp;&lt;&gt;", "&lt;b&gt; &amp; &quot;q&quot;"), link("&amp;amp;", "&amp;lt;"))},
		{c(api.Tree{d("f", nil)}), file(folder("f"))}, {c(api.Tree{d("B", nil), d("a", nil, l("u", "")), d("b", nil)}, l("z", "1")), file(link("z", "1"), folder("B"), folder("a", link("u", "")), folder("b"))}, {c(api.Tree{d("<", api.Tree{d(`"`, nil, l("u", "3")), d("&", nil)}, l("v", "2"))}, l("w", "1")), file(link("w", "1"), folder("&lt;", link("v", "2"), folder("&quot;", link("u", "3")), folder("&amp;")))}, {within(4, c(nil, l("u", "1"))), file(nested(4, link("u", "1")))},
		{c(nil, l(x(80), x(80)), l("~", strings.Repeat("&", 80))), file(link(x(80), x(80)), link("~", strings.Repeat("&amp;", 80)))}, {c(nil, l("\x00\xff", "\t'")), file(link("\x00\xff", "\t'"))},
	} {
		if got, err := marks.Create(x.t); got != x.want || err != api.OK {
			t.Errorf("P903: Create(%s): %q, %v, not %q", tree.Text(x.t), got, err, x.want)
		}
		puts(t, x.t, file(), x.want)
		puts(t, x.t, strings.TrimSuffix(file(), "\n"), strings.TrimSuffix(x.want, "\n"))
		puts(t, x.t, crlf(file()), crlf(x.want))
		puts(t, x.t, file(link("q", "1"), folder("q", link("u", "1"), folder("f"))), x.want)
		puts(t, x.t, file(folder("q", link("u", "1")), link("q", "1")), x.want)
		puts(t, x.t, x.want, x.want)
		puts(t, x.t, crlf(x.want), crlf(x.want))
		puts(t, x.t, " \t\n"+file(" \t", folder("q"), "")+"\t\n ", " \t\n"+file(append([]string{" \t", ""}, strings.Split(strings.TrimSuffix(x.want, "\n</DL>\n"), "\n")[2:]...)...)+"\t\n ")
	}
}

// P903: what stays: blanks, order, how lines end.
func TestPutStays(t *testing.T) {
	g := "\t<H3>g</H3>\n\n <DL> \r\n\t" + link("u", "2") + "\n  <H3>h</H3>\r\n<DL>\n\t\n</DL>\n\n\t</DL>\t\n"
	w, v := " "+link("w", "1")+" \r\n", link("v", "&amp; ")+"\n"
	s := "\n <!MARKS>\r\n\t\n<DL>\n" + w + "\n" + g + v + "<H3>f</H3>\n<DL>\n</DL>\r\n\t\n</DL> \n \r\n "
	lg, lf := d("g", api.Tree{d("h", nil)}, l("u", "2")), d("f", nil)
	lw, lv := l("w", "1"), l("v", "& ")
	without := func(pieces ...string) string {
		r := s
		for _, piece := range pieces {
			if !strings.Contains(r, piece) {
				t.Fatalf("P903: no %q", piece)
			}
			r = strings.Replace(r, piece, "", 1)
		}
		return r
	}
	f := "<H3>f</H3>\n<DL>\n</DL>\r\n"
	puts(t, c(api.Tree{lf, lg}, lv, lw), s, s)
	puts(t, c(api.Tree{lf, lg}, lv), s, without(w))
	puts(t, c(api.Tree{lf, lg}, lw), s, without(v))
	puts(t, c(api.Tree{lf}, lv, lw), s, without(g))
	puts(t, c(api.Tree{lg}, lv, lw), s, without(f))
	puts(t, c(nil, lw), s, without(g, v, f))
	puts(t, c(nil), s, "\n <!MARKS>\r\n\t\n<DL>\n\n\t\n</DL> \n \r\n ")
	puts(t, c(api.Tree{lf, d("g", nil, l("u", "2"))}, lv, lw), s, without("  <H3>h</H3>\r\n<DL>\n\t\n</DL>\n"))
	puts(t, c(api.Tree{lf, d("g", api.Tree{d("h", nil)})}, lv, lw), s, without("\t"+link("u", "2")+"\n"))
	puts(t, c(api.Tree{d("g", nil)}), s, "\n <!MARKS>\r\n\t\n<DL>\n\n\t<H3>g</H3>\n\n <DL> \r\n\n\t</DL>\t\n\t\n</DL> \n \r\n ")
}

// P903: what goes, and only that: of places and names that are the same in other contents.
func TestPutGoes(t *testing.T) {
	u := link("u", "1")
	f := folder("f", u, folder("g", u, folder("f", u)))
	in := func(name string, links api.Tree, below ...api.Edge) api.Edge { return d(name, below, links...) }
	lu := api.Tree{l("u", "1")}
	all := in("f", lu, in("g", lu, in("f", lu)))
	puts(t, c(api.Tree{all}, lu...), file(u, f), file(u, f))
	puts(t, c(api.Tree{all}), file(u, f), file(f))
	puts(t, c(nil, lu...), file(u, f), file(u))
	puts(t, c(api.Tree{in("f", nil, in("g", lu, in("f", lu)))}, lu...), file(u, f), file(u, folder("f", folder("g", u, folder("f", u)))))
	puts(t, c(api.Tree{in("f", lu, in("g", nil, in("f", lu)))}, lu...), file(f, u), file(folder("f", u, folder("g", folder("f", u))), u))
	puts(t, c(api.Tree{in("f", lu, in("g", lu, in("f", nil)))}, lu...), file(f, u), file(folder("f", u, folder("g", u, folder("f"))), u))
	puts(t, c(api.Tree{in("f", lu, in("g", lu))}), file(f, u), file(folder("f", u, folder("g", u))))
	puts(t, c(api.Tree{in("f", lu)}), file(f, u), file(folder("f", u)))
	puts(t, c(api.Tree{d("f", nil)}), file(f, u), file(folder("f")))
	puts(t, c(api.Tree{in("g", lu, in("f", lu))}), file(f), file(folder("g", u, folder("f", u))))
	puts(t, c(api.Tree{all}, lu...), file(f, folder("u", f), u, folder("g", u), link("f", "g")), file(f, u))
	puts(t, c(api.Tree{d("u", nil)}, l("f", "")), file(u, link("f", ""), folder("f"), folder("u", "")), file(link("f", ""), folder("u", "")))
	puts(t, c(nil, l("F", ""), l("f ", "")), file(link("f", ""), link("f ", ""), link("F", ""), link(" f", "")), file(link("f ", ""), link("F", "")))
}

// P903: a title gives way to another one, byte for byte, and nothing else does.
func TestPutTitles(t *testing.T) {
	for _, v := range [][3]string{
		{"1", "2", "2"}, {"1", "", ""}, {"", "1", "1"}, {"1", " 1", " 1"}, {" 1 ", "1", "1"}, {"&lt;", "<", "&lt;"}, {"&amp;lt;", "<", "&lt;"}, {"&lt;", "&lt;", "&amp;lt;"}, {"a&amp;b", "a&c", "a&amp;c"}, {"u", "v", "v"}, {" ", "", ""}, {"", " ", " "}, {"", `">`, "&quot;&gt;"}, {x(80), strings.Repeat(`"`, 80), strings.Repeat("&quot;", 80)}, {strings.Repeat("&quot;", 80), "1", "1"}, {"t", "t\x00\xff", "t\x00\xff"}, {"\t", "\t\t", "\t\t"}, {"1", "01", "01"}, {"A", "a", "a"},
	} {
		for _, around := range [][2]string{{"", ""}, {" ", ""}, {"\t \t", "\t"}, {"", " "}, {"\n \n  ", "\r"}} {
			old, fresh := around[0]+link("u", v[0])+around[1], around[0]+link("u", v[2])+around[1]
			puts(t, c(nil, l("u", v[1])), file(old), file(fresh))
			puts(t, within(4, c(nil, l("u", v[1]))), file(nested(4, old)), file(nested(4, fresh)))
			puts(t, c(api.Tree{d("f", nil, l("u", v[1]))}, l("t", "1"), l("u", "0"), l("v", "1")), file(link("v", "1"), folder("f", old), link("u", "00"), "", link("t", "")), file(link("v", "1"), folder("f", fresh), link("u", "0"), "", link("t", "1")))
		}
	}
	for _, place := range []string{"u", " ", "&amp;", "&quot;&gt;", "1", "&lt;A HREF=", strings.Repeat("&quot;", 80)} {
		puts(t, c(nil, l(meaning(place), "2")), file("  "+link(place, "1")), file("  "+link(place, "2")))
		puts(t, c(nil, l(meaning(place), "&")), file(link(place, place)), file(link(place, "&amp;")))
	}
	puts(t, c(nil, l("u", "2"), l("v", "1")), file(link("u", "1"), link("v", "2")), file(link("u", "2"), link("v", "1")))
}

// P903: new links, then new folders, stand right ahead of their content's end, in order.
func TestPutNew(t *testing.T) {
	u, v := link("u", "1"), link("v", "2")
	for _, x := range []struct {
		t       api.Tree
		s, want string
	}{
		{c(nil, l("a", ""), l("u", "1"), l("v", "2")), file(u), file(u, link("a", ""), v)}, {c(nil, l("a", ""), l("u", "1")), file("", " "+u, "\t"), file("", " "+u, "\t", link("a", ""))}, {c(api.Tree{d("a", nil), d("f", nil), d("z", nil)}, l("u", "1")), file(folder("f"), ""), file(folder("f"), "", u, folder("a"), folder("z"))}, {c(api.Tree{d("f", nil), d("g", nil)}, l("u", "1"), l("v", "2")), file(folder("g"), v), file(folder("g"), v, u, folder("f"))}, {c(api.Tree{d("f", api.Tree{d("g", nil)}, l("u", "1"))}), file(folder("f")), file(folder("f", u, folder("g")))}, {c(api.Tree{d("f", api.Tree{d("g", nil)}, l("u", "1"))}, l("v", "2")), file(folder("f", "", " ")), file(folder("f", "", " ", u, folder("g")), v)},
		{c(api.Tree{d("f", api.Tree{d("g", nil, l("v", "2"))}, l("u", "1")), d("g", nil, l("u", "1"))}, l("v", "2")), file(folder("g", " "), folder("f", folder("g"), "")), file(folder("g", " ", u), folder("f", folder("g", v), "", u), v)}, {c(api.Tree{d("f", nil, l("v", "2"))}, l("u", "1")), file(folder("f", u), v), file(folder("f", v), u)}, {c(api.Tree{d("g", nil, l("u", "1"))}, l("v", "2")), file(u, folder("f", u), " "), file(" ", v, folder("g", u))}, {c(api.Tree{d("g", api.Tree{d("h", nil, l("u", "1")), d("i", nil)}, l("u", "1"), l("v", "2"))}), file(), file(folder("g", u, v, folder("h", u), folder("i")))}, {within(4, c(nil, l("u", "1"), l("v", "2"))), file(nested(4, v)), file(nested(4, v, u))}, {within(4, c(nil, l("u", "1"))), file(nested(3, "")), file(nested(3, "", folder("f", u)))},
		{c(nil, l("B", ""), l("a", ""), l("b", ""), l("~", ""), l("é", "")), file(link("b", "")), file(link("b", ""), link("B", ""), link("a", ""), link("~", ""), link("é", ""))}, {c(nil, l(" ", ""), l(`"`, ""), l("&", ""), l("'", ""), l("<", "")), file(), file(link(" ", ""), link("&quot;", ""), link("&amp;", ""), link("'", ""), link("&lt;", ""))}, {c(api.Tree{d(`"`, nil), d("&", nil), d("'", nil)}), file(folder("&amp;")), file(folder("&amp;"), folder("&quot;"), folder("'"))}, {c(api.Tree{d("f", nil, l("u", "1"))}, l("f", "")), "<!MARKS>\n<DL>\n  <H3>f</H3>\n  <DL>\n  </DL>\n</DL>", "<!MARKS>\n<DL>\n  <H3>f</H3>\n  <DL>\n" + u + "\n  </DL>\n" + link("f", "") + "\n</DL>"},
	} {
		puts(t, x.t, x.s, x.want)
	}
}

// P903: how new lines end: as the first line, whatever that is.
func TestPutEnds(t *testing.T) {
	some := c(api.Tree{d("f", nil, l("u", "1"))}, l("v", "2"))
	fresh := link("v", "2") + "\n" + folder("f", link("u", "1")) + "\n"
	for _, v := range [][3]string{
		{"<!MARKS>\n<DL>\n", fresh, "</DL>"}, {"<!MARKS>\n<DL>\n", fresh, "</DL>\r\n"}, {"<!MARKS>\r\n<DL>\r\n", crlf(fresh), "</DL>"}, {"<!MARKS>\r\n<DL>\n", crlf(fresh), "</DL>\n"}, {"<!MARKS>\n<DL>\r\n", fresh, "</DL>\r\n\r\n"}, {"\r\n<!MARKS>\n<DL>\n", crlf(fresh), "</DL>\n"}, {"\n<!MARKS>\r\n<DL>\r\n", fresh, "</DL>\r\n"}, {" \r\n<!MARKS>\n<DL>\n", crlf(fresh), "</DL>\n "}, {"\t\n\r\n<!MARKS>\r\n<DL>\r\n\r\n", fresh, " </DL>\r\n\t"},
	} {
		puts(t, some, v[0]+v[2], v[0]+v[1]+v[2])
		puts(t, some, v[0]+crlf(fresh)+v[2], v[0]+crlf(fresh)+v[2])
		puts(t, some, v[0]+fresh+"\r\n"+v[2], v[0]+fresh+"\r\n"+v[2])
		puts(t, some, v[0]+folder("q", link("u", "1"))+"\r\n"+v[2], v[0]+v[1]+v[2])
		puts(t, c(nil), v[0]+crlf(fresh)+v[2], v[0]+v[2])
		puts(t, c(nil), v[0]+fresh+v[2], v[0]+v[2])
	}
}

// P903, P6: Load's error of the file, then Fits' of the tree, then ErrLong; P4: nothing beside them.
func TestPutErrors(t *testing.T) {
	fine, unfit, wrong, wide := c(nil, l("u", "1")), c(nil, e("u")), api.Tree{e("b"), e("a")}, c(nil)
	for i := range 60 {
		wide[1].T = append(wide[1].T, l(fmt.Sprintf("%02d", i), x(80)))
	}
	bad := map[string]api.Errno{"": api.ErrNone, "\n \t\r\n": api.ErrNone, "x": api.ErrLine, "<!MARKS>\n": api.ErrLine, file("x"): api.ErrLine, file() + "x": api.ErrLine, file(link("u", "\r")): api.ErrLine, file(link("u", ""), link("u", "")): api.ErrTwice, file(folder("f"), folder("f")): api.ErrTwice, file(nested(5)): api.ErrDeep, strings.Repeat("\n", 4001): api.ErrLong, file(links(200)...): api.ErrMany}
	for s, want := range bad {
		for i, x := range []api.Tree{nil, fine, unfit, wrong, wide} {
			if got, err := marks.Put(x, s); got != "" || err != want {
				t.Errorf("P903, P4, P6: %d into %.30q: %q, %v, not %v", i, s, got, err, want)
			}
		}
	}
	for _, s := range []string{file(), file(link("u", "1"), folder("f", "")), file() + strings.Repeat("\n", 4000-len(file())), file(links(199)...)} {
		for i, want := range []api.Errno{api.ErrFit, api.ErrFit, api.ErrName, api.ErrLong} {
			if got, err := marks.Put([]api.Tree{nil, unfit, wrong, wide}[i], s); got != "" || err != want {
				t.Errorf("P903, P4, P6: %d into %.30q: %q, %v, not %v", i, s, got, err, want)
			}
		}
	}
	if got, err := marks.Create(wide); got != "" || err != api.ErrLong {
		t.Errorf("P903, P4: %q, %v", got, err)
	}
}

// P903: 4000 bytes are not too many, 4001 are: of what is made, not of what was there.
func TestPutLong(t *testing.T) {
	long := func(x api.Tree, s string) {
		t.Helper()
		if got, err := marks.Put(x, s); got != "" || err != api.ErrLong {
			t.Errorf("P903: %d bytes, %v", len(got), err)
		}
	}
	one := file(link("u", "1"))
	blanks := strings.Repeat("\n", 4000-len(one))
	puts(t, c(nil, l("u", "1")), blanks+file(), blanks+one)
	long(c(nil, l("u", "1")), blanks+"\n"+file())
	puts(t, c(nil, l("u", "1")), file()+blanks, one+blanks)
	long(c(nil, l("u", "1")), file()+blanks+" ")
	puts(t, c(nil, l("u", "2")), one+blanks, file(link("u", "2"))+blanks)
	long(c(nil, l("u", "22")), one+blanks)
	long(c(nil, l("u", "&")), one+blanks[3:])
	puts(t, c(nil, l("u", "&")), one+blanks[4:], file(link("u", "&amp;"))+blanks[4:])
	long(c(nil, l("u", "1")), "\r\n"+file()+blanks[2:])
	puts(t, c(nil, l("u", "1")), "\r\n"+file()+blanks[3:], "\r\n"+file(link("u", "1")+"\r")+blanks[3:])
	puts(t, c(nil), one+blanks, file()+blanks)
	puts(t, c(nil, l("v", "1")), one+blanks, file(link("v", "1"))+blanks)
	f := file(folder("f"))
	puts(t, c(api.Tree{d("f", nil)}), file()+strings.Repeat(" ", 4000-len(f)), f+strings.Repeat(" ", 4000-len(f)))
	long(c(api.Tree{d("f", nil)}), file()+strings.Repeat(" ", 4001-len(f)))
}

// same holds Put against the chapter anew, and against P904.
func same(t *testing.T, x api.Tree, s string) {
	t.Helper()
	got, err := marks.Put(x, s)
	if want, fault := plainPut(x, s); got != want || err != fault {
		t.Fatalf("P903: %s into %q: %q, %v, not %q, %v", tree.Text(x), s, got, err, want, fault)
	}
	if err != api.OK {
		return
	}
	if y, _, fault := marks.Load(got); fault != api.OK || !tree.Same(x, y) {
		t.Fatalf("P904: %s into %q: %q, loaded as %s, %v", tree.Text(x), s, got, tree.Text(y), fault)
	}
	if again, fault := marks.Put(x, got); fault != api.OK || again != got {
		t.Fatalf("P904: %s into %q: %q, put again %q, %v", tree.Text(x), s, got, again, fault)
	}
}

// P903, P904: all short files that may be, with some trees each.
func TestPutAll(t *testing.T) {
	trees := []api.Tree{c(nil), c(nil, l("u", "1")), c(nil, l("u", "2"), l("v", "<")), c(api.Tree{d("f", nil)}), c(api.Tree{d("f", api.Tree{d("f", nil, l("v", "1")), d("g", nil)}, l("u", "1"))}, l("v", "")), c(api.Tree{d("e", nil), d("g", nil, l("u", "1"))}, l("t", ""), l("u", ""))}
	for _, s := range over([]string{"<H3>f</H3>\n<DL>\n", " <H3>g</H3>\n\n<DL>\r\n", "</DL>\n", link("u", "1") + "\r\n", "\t" + link("v", "&lt;") + "\n", "\n"}, 5) {
		for _, s := range []string{file(s), "\r\n<!MARKS>\n<DL>\n" + s + "</DL>", file(folder("f", s) + "\r")} {
			if old, _, err := plainLoad(s); err == api.OK {
				same(t, old, s)
				for _, x := range trees {
					same(t, x, s)
				}
			}
		}
	}
}

// P903, P904: files and trees of many kinds, and each file's own tree, as it is and changed.
func TestPutRandom(t *testing.T) {
	r := rand.New(rand.NewSource(6))
	for range 700 {
		s := randomFile(r)
		old, _, err := marks.Load(s)
		if err != api.OK {
			t.Fatalf("P902: %q: %v", s, err)
		}
		if got, err := marks.Put(old, s); got != s || err != api.OK {
			t.Fatalf("P904: %q is put back as %q, %v", s, got, err)
		}
		same(t, randomTree(r, false), s)
		x := old
		for range 3 {
			x = changed(r, x)
			same(t, x, s)
		}
	}
}

// changed is a tree with one change that fits.
func changed(r *rand.Rand, x api.Tree) api.Tree {
	var paths [][]string
	walk(x, nil, func(path []string) { paths = append(paths, path) })
	for range 20 {
		path := append(below(paths[r.Intn(len(paths))]), pick(r, []string{pick(r, someNames()), pick(r, somePlaces())}))
		y := tree.Drop(x, path[:1+r.Intn(len(path))])
		switch r.Intn(3) {
		case 0:
			y = tree.Put(x, path, randomContent(r, 1))
		case 1:
			y = tree.Put(x, path, api.Tree{e(pick(r, someTitles()))})
		}
		if plainFits(y) == api.OK {
			return y
		}
	}
	return x
}

// P903: of any file and any tree: Load's error, or Fits', or what the chapter makes of them.
func TestPutOdd(t *testing.T) {
	r := rand.New(rand.NewSource(7))
	for range 2500 {
		s, x := randomFile(r), randomTree(r, true)
		if r.Intn(2) == 0 {
			s = spoilt(r, s)
		}
		_, _, want := plainLoad(s)
		if want == api.OK {
			want = plainFits(x)
		}
		if want == api.OK {
			same(t, x, s)
		} else if got, err := marks.Put(x, s); got != "" || err != want {
			t.Fatalf("P903, P6: %s into %q: %q, %v, not %v", tree.Text(x), s, got, err, want)
		}
	}
}
