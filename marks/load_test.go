package marks_test

import (
	"fmt"
	"math/rand"
	"strings"
	"testing"

	"cadence/api"
	"cadence/marks"
	"cadence/tree"
)

// loads asks what a file is as a tree.
func loads(t *testing.T, s string, want api.Tree) {
	t.Helper()
	got, line, err := marks.Load(s)
	if err != api.OK || line != 0 || tree.Text(got) != tree.Text(want) {
		t.Errorf("P901, P902: %.200q: %s, %d, %v, not %s", s, tree.Text(got), line, err, tree.Text(want))
	}
}

// refused asks which line of a file is wrong, and how.
func refused(t *testing.T, s string, line int, want api.Errno) {
	t.Helper()
	if got, at, err := marks.Load(s); err != want || at != line || len(got) != 0 {
		t.Errorf("P901, P902, P4: %.200q: %s, %d, %v, not %d, %v", s, tree.Text(got), at, err, line, want)
	}
}

// The chapter's example.
func TestExample(t *testing.T) {
	for _, s := range []string{"<!MARKS>\n<DL>\n</DL>\n", "<!MARKS>\n<DL>\n</DL>", "<!MARKS>\r\n<DL>\r\n</DL>\r\n"} {
		got, line, err := marks.Load(s)
		if tree.Text(got) != `{"folders": {}, "links": {}}` || line != 0 || err != api.OK {
			t.Errorf("P901: %q: %s, %d, %v", s, tree.Text(got), line, err)
		}
	}
}

// P901: lines of blanks do not count, wherever they stand, nor do blanks at a line's ends.
func TestBlanks(t *testing.T) {
	want := c(api.Tree{d("f", nil, l("v", ""))}, l("u", " 1 "))
	lines := []string{"<!MARKS>", "<DL>", link("u", " 1 "), "<H3>f</H3>", "<DL>", link("v", ""), "</DL>", "</DL>"}
	for _, s := range []string{"", " ", "\t", " \t ", "\r\n", " \n\t\r\n"} {
		loads(t, s+"\n"+strings.Join(lines, "\n"+s+"\n")+"\n"+s, want)
		loads(t, s+strings.Join(lines, "\n"+s)+"\n"+s, want)
		if !strings.Contains(s, "\n") {
			loads(t, strings.Join(lines, s+"\n")+s, want)
			loads(t, strings.Join(lines, s+"\r\n"+s)+s+"\r\n", want)
		}
	}
	for _, s := range []string{"\x0b", "\x0c", "\x00", "\u00a0", "\u0085", "\ufeff", "\r ", " \r\t", "x", ";", "#", "<!-- -->", "-", "\xff"} {
		refused(t, s, 1, api.ErrLine)
		for i := range lines {
			refused(t, strings.Join(lines[:i], "\n")+"\n"+s+"\n"+strings.Join(lines[i:], "\n"), max(2, i+1), api.ErrLine)
			if !strings.HasPrefix(s, "\r") {
				refused(t, strings.Join(lines[:i], "\n")+"\n"+lines[i]+s, max(2, i+1), api.ErrLine)
			}
			refused(t, strings.Join(lines[:i], "\n")+"\n"+s+lines[i], max(2, i+1), api.ErrLine)
		}
		refused(t, strings.Join(lines, "\n")+"\n"+s, 9, api.ErrLine)
	}
}

// P901: words stand just as they are written.
func TestWords(t *testing.T) {
	for _, s := range []string{"<!marks>", "<!Marks>", "<! MARKS>", "<!MARKS >", "<!MARKS", "!MARKS>", "<MARKS>", "<!MARKS>>", "<!MARKS><DL>", "<!DOCTYPE MARKS>", "MARKS"} {
		refused(t, s+"\n<DL>\n</DL>\n", 1, api.ErrLine)
	}
	for _, s := range []string{"<dl>", "<DL >", "< DL>", "<DL", "DL>", "<DL><p>", "<DL></DL>", "<UL>", "<DL>x", "<DL/>"} {
		refused(t, "<!MARKS>\n"+s+"\n</DL>\n", 2, api.ErrLine)
		refused(t, file("<H3>f</H3>", s, "</DL>"), 4, api.ErrLine)
	}
	for _, s := range []string{"</dl>", "</DL >", "</ DL>", "< /DL>", "</DL", "/DL>", "<\\DL>", "</UL>", "</DL>x", "</DL></DL>", "<DL/>"} {
		refused(t, "<!MARKS>\n<DL>\n"+s+"\n", 3, api.ErrLine)
		refused(t, file("<H3>f</H3>", "<DL>", s), 5, api.ErrLine)
	}
	for _, s := range []string{"<h3>f</h3>", "<H3>f</h3>", "<H3 >f</H3>", "<H3>f</H3 >", "<H3>f", "f</H3>", "<H3>f<H3>", "</H3>f<H3>", "<H3>f</H3>x", "x<H3>f</H3>", "<H3></H3>", "<H3></H3></H3>", "<H3><H3>f</H3>", "<H2>f</H2>", "<H3>f</H2>", "<H3>", "</H3>", "<H3</H3>", "<H3>f</H3><DL>", "<DT><H3>f</H3>", "<H3>f</A>", "<H3>f</H3> <H3>g</H3>"} {
		refused(t, file(s, "<DL>", "</DL>"), 3, api.ErrLine)
		refused(t, file(folder("f", link("u", ""), s, "<DL>", "</DL>")), 6, api.ErrLine)
	}
	for _, s := range []string{`<a href="u">t</a>`, `<A href="u">t</A>`, `<A HREF="u">t</a>`, `<A  HREF="u">t</A>`, "<A\tHREF=\"u\">t</A>", `<A HREF ="u">t</A>`, `<A HREF= "u">t</A>`, `<A HREF='u'>t</A>`, `<A HREF=u>t</A>`, `<A HREF="u" >t</A>`, `<A HREF="u"x>t</A>`, `<A HREF="u>t</A>`, `<A HREF="u"t</A>`, `<A HREF="ut</A>`, `<A HREF="u">t`, `<A HREF="u">t</A`, `<A HREF="u">t</A >`, `<A HREF="u">t</A>x`, `x<A HREF="u">t</A>`, `<AHREF="u">t</A>`, `<A HREF="u">t</H3>`, `<A>t</A>`, `<A HREF="">t</A>`, `<A HREF="">t">t</A>`, `<A HREF="</A>`, `<A HREF="">`, `<A HREF=""></A>`, `HREF="u">t</A>`, `<A HREF="u">t</A></A>`, `<A HREF="u"><A HREF="v">t</A>`, `<A HREF="u">t</A> <A HREF="v">t</A>`, `<A HREF="u" X="v">t</A>`, `<DT><A HREF="u">t</A>`, `<A HREF=""u">t</A>`, `<A HREF="u"">t</A>`, `<A HREF="u">>t</A>`, `<A HREF="u">">t</A>`} {
		refused(t, file(s), 3, api.ErrLine)
		refused(t, file(link("u", ""), folder("f", "", s)), 7, api.ErrLine)
	}
}

// P901, P902: what stands where.
func TestOrder(t *testing.T) {
	all := []string{"<!MARKS>", "<DL>", "</DL>", "<H3>f</H3>", link("u", "1")}
	after := func(s string, fit ...int) {
		t.Helper()
		for i, x := range all {
			n := strings.Count(s, "\n") + 1
			want := api.ErrLine
			for _, one := range fit {
				if i == one {
					want = api.OK
				}
			}
			if want == api.OK {
				continue
			}
			refused(t, s+x, n, want)
			refused(t, s+x+"\n"+s, n, want)
			refused(t, s+"\n \n"+x+"\r\n</DL>\n</DL>", n+2, want)
		}
	}
	after("", 0)
	after("<!MARKS>\n", 1)
	after("<!MARKS>\n<DL>\n", 2, 3, 4)
	after("<!MARKS>\n<DL>\n"+all[4]+"\n", 2, 3, 4)
	after("<!MARKS>\n<DL>\n<H3>g</H3>\n", 1)
	after("<!MARKS>\n<DL>\n<H3>g</H3>\n<DL>\n", 2, 3, 4)
	after("<!MARKS>\n<DL>\n<H3>g</H3>\n<DL>\n</DL>\n", 2, 3, 4)
	after("<!MARKS>\n<DL>\n<H3>g</H3>\n<DL>\n<H3>h</H3>\n", 1)
	after("<!MARKS>\n<DL>\n<H3>g</H3>\n<DL>\n<H3>h</H3>\n<DL>\n</DL>\n", 2, 3, 4)
	after("<!MARKS>\n<DL>\n</DL>\n")
	after("<!MARKS>\n<DL>\n<H3>g</H3>\n<DL>\n</DL>\n</DL>\n\n")
	loads(t, file(link("v", "2"), folder("g", folder("h"), link("u", "3")), link("u", "1"), folder("f", link("u", ""))), c(api.Tree{d("f", nil, l("u", "")), d("g", api.Tree{d("h", nil)}, l("u", "3"))}, l("u", "1"), l("v", "2")))
}

// texts are what a file may say, and what that means; odd ones are those that it may not say.
func texts() [][2]string {
	return [][2]string{
		{"a", "a"}, {" ", " "}, {" a\t", " a\t"}, {"&amp;", "&"}, {"&lt;", "<"}, {"&gt;", ">"}, {"&quot;", `"`}, {"&amp;amp;", "&amp;"}, {"&amp;lt;", "&lt;"}, {"&amp;&amp;", "&&"}, {"&lt;&gt;&quot;&amp;", `<>"&`}, {"a&amp;b", "a&b"}, {"&amp;;", "&;"}, {"amp;", "amp;"}, {";", ";"}, {"&lt;/A&gt;", "</A>"}, {"&lt;/DL&gt;", "</DL>"}, {"&lt;!MARKS&gt;", "<!MARKS>"}, {"'", "'"}, {"=", "="}, {"/", "/"}, {"\\", "\\"}, {"\x00\x0b\xff", "\x00\x0b\xff"}, {"é\u00a0", "é\u00a0"}, {"u:&amp;#38;", "u:&#38;"}, {"http://x.y/z?a=1&amp;b=2#c", "http://x.y/z?a=1&b=2#c"},
		{x(80), x(80)}, {strings.Repeat("&lt;", 80), strings.Repeat("<", 80)}, {strings.Repeat("&quot;", 80), strings.Repeat(`"`, 80)}, {x(79) + "&amp;", x(79) + "&"}, {"&amp;" + x(79), "&" + x(79)}, {strings.Repeat("é", 40), strings.Repeat("é", 40)},
	}
}

func oddTexts() []string {
	return []string{"&", "<", ">", `"`, "a&b", "a<b", "a>b", `a"b`, "& ", "&;", "&amp", "&lt", "&AMP;", "&Amp;", "&am;", "&ampx;", "& amp;", "&amp ;", "&apos;", "&#38;", "&#x26;", "&nbsp;", "&quo;", "&&amp;", "&&amp;;", "&<;", "&amp;<", "<&lt;", ">&gt;", `&quot;"`, "<b>", "</A>", "</H3>", "\r", "a\rb", "\r&amp;", "&amp;\r", x(81), x(80) + "&lt;", "&amp;" + x(80), strings.Repeat("&lt;", 81), strings.Repeat("é", 41), x(1500)}
}

// P901: what places, titles and names mean.
func TestTexts(t *testing.T) {
	for _, v := range texts() {
		loads(t, file(link(v[0], "t")), c(nil, l(v[1], "t")))
		loads(t, file(link("u", v[0])), c(nil, l("u", v[1])))
		loads(t, file("\t"+link(v[0], v[0])+" "), c(nil, l(v[1], v[1])))
		loads(t, file(folder(v[0])), c(api.Tree{d(v[1], nil)}))
		loads(t, file(folder(v[0], folder(v[0]), link(v[0], v[0])), link(v[0], "")), c(api.Tree{d(v[1], api.Tree{d(v[1], nil)}, l(v[1], v[1]))}, l(v[1], "")))
	}
	loads(t, file(link("u", "")), c(nil, l("u", "")))
	for _, s := range oddTexts() {
		refused(t, file(link(s, "t")), 3, api.ErrLine)
		refused(t, file("", link(s, "")+" "), 4, api.ErrLine)
		refused(t, file(link("u", s)), 3, api.ErrLine)
		refused(t, file(link("v", ""), "\t"+link("u", s), "x"), 4, api.ErrLine)
		refused(t, file(folder(s)), 3, api.ErrLine)
		refused(t, file(folder("f", link("u", ""), " "+folder(s))), 6, api.ErrLine)
	}
	refused(t, file(link("", "t")), 3, api.ErrLine)
	refused(t, file(folder("")), 3, api.ErrLine)
	loads(t, file(link(strings.Repeat("&amp;", 80), strings.Repeat("&quot;", 80)), folder(strings.Repeat("&gt;", 80))), c(api.Tree{d(strings.Repeat(">", 80), nil)}, l(strings.Repeat("&", 80), strings.Repeat(`"`, 80))))
}

// nested are folders, one in the other, and in the last one these lines.
func nested(deep int, lines ...string) string {
	s := block(lines...)
	for range deep {
		s = "<H3>f</H3>\n<DL>\n" + s + "</DL>\n"
	}
	return strings.TrimSuffix(s, "\n")
}

// within is a content at that depth.
func within(deep int, t api.Tree) api.Tree {
	for range deep {
		t = c(api.Tree{e("f", t...)})
	}
	return t
}

// P901, P902: folders in folders, four deep at most.
func TestDeep(t *testing.T) {
	for deep := range 5 {
		loads(t, file(nested(deep, link("u", "1"))), within(deep, c(nil, l("u", "1"))))
		if deep < 4 {
			loads(t, file(nested(deep, folder("a"), folder("b"))), within(deep, c(api.Tree{d("a", nil), d("b", nil)})))
		}
	}
	refused(t, file(nested(5)), 11, api.ErrDeep)
	refused(t, file(nested(9)), 11, api.ErrDeep)
	refused(t, file(nested(4, link("u", ""), "", folder("g"))), 13, api.ErrDeep)
	refused(t, file(nested(4), nested(4, "")), 15, api.ErrTwice)
	refused(t, file(folder("a", nested(3)), folder("b", nested(4))), 23, api.ErrDeep)
	refused(t, file(nested(4, "<H3>g</H3>")), 11, api.ErrDeep)
	refused(t, file(nested(4, "<H3></H3>", "<DL>", "</DL>")), 11, api.ErrLine)
	refused(t, file(nested(4, "<H3>g</H3>\r", "<DL>", "</DL>")), 11, api.ErrDeep)
	refused(t, file(nested(4, "<H3>g</H3>\r\r", "<DL>", "</DL>")), 11, api.ErrLine)
	refused(t, file(nested(4, "<DL>")), 11, api.ErrLine)
	refused(t, file(nested(4, "x", folder("g"))), 11, api.ErrLine)
	refused(t, file(nested(3, "<H3>f</H3>", "<H3>g</H3>")), 10, api.ErrLine)
	refused(t, strings.Repeat("<H3>f</H3>\n<DL>\n", 100), 1, api.ErrLine)
	loads(t, file(nested(4), folder("a", nested(3)), nested(0), folder("b", folder("f"), nested(0))), c(api.Tree{e("a", within(3, c(nil))...), d("b", api.Tree{d("f", nil)}), within(4, c(nil))[0].T[0]}))
}

// P902: what is there already; P6: what is wrong with a line comes ahead of that.
func TestTwice(t *testing.T) {
	for deep := range 5 {
		ahead := 2*deep + 2
		refused(t, file(nested(deep, link("u", "1"), link("u", "1"), "x")), ahead+2, api.ErrTwice)
		refused(t, file(nested(deep, link("u", "1"), link("v", "1"), "", " "+link("u", "2")+" ", "x")), ahead+4, api.ErrTwice)
		refused(t, file(nested(deep, link("&amp;", ""), link("&amp;", "2"))), ahead+2, api.ErrTwice)
		refused(t, file(nested(deep, link("u", "1"), `<A HREF="u">1</B>`)), ahead+2, api.ErrLine)
		refused(t, file(nested(deep, link("u", "1"), link("u", "<"))), ahead+2, api.ErrLine)
		refused(t, file(nested(deep, link("u", "1"), link("u", "1")+"\r\r")), ahead+2, api.ErrLine)
		if deep == 4 {
			continue
		}
		refused(t, file(nested(deep, folder("f"), folder("f"))), ahead+4, api.ErrTwice)
		refused(t, file(nested(deep, folder("f", link("u", "")), "", folder("g"), "\t<H3>f</H3>", "x")), ahead+9, api.ErrTwice)
		refused(t, file(nested(deep, folder("&lt;"), "<H3>&lt;</H3>")), ahead+4, api.ErrTwice)
		refused(t, file(nested(deep, folder("f"), "<H3>f</H3>x")), ahead+4, api.ErrLine)
		loads(t, file(nested(deep, link("f", ""), folder("f"), link("F", "f"), folder("f "), link("f ", ""), folder("F"), link("&amp;f", ""))), within(deep, c(api.Tree{d("F", nil), d("f", nil), d("f ", nil)}, l("&f", ""), l("F", "f"), l("f", ""), l("f ", ""))))
	}
	loads(t, file(link("u", "1"), folder("f", link("u", "2"), folder("f", link("u", "1"))), folder("g", link("u", "1"), folder("f"))), c(api.Tree{d("f", api.Tree{d("f", nil, l("u", "1"))}, l("u", "2")), d("g", api.Tree{d("f", nil)}, l("u", "1"))}, l("u", "1")))
	refused(t, file(folder("f", link("u", "")), link("u", ""), folder("g", link("u", ""), link("u", ""))), 11, api.ErrTwice)
	refused(t, file(folder("f", folder("g")), folder("g", folder("f"), folder("g")), folder("f")), 18, api.ErrTwice)
}

// P902: where something lacks at the end, the line is the last one, blank or not.
func TestLacks(t *testing.T) {
	whole := strings.SplitAfter(file(link("u", ""), folder("f", folder("g", link("v", ""))), link("w", "")), "\n")
	whole = whole[:len(whole)-1]
	for i := 1; i < len(whole); i++ {
		s := strings.Join(whole[:i], "")
		refused(t, s, i, api.ErrLine)
		refused(t, strings.TrimSuffix(s, "\n"), i, api.ErrLine)
		refused(t, s+"\n\r\n\t", i+3, api.ErrLine)
		refused(t, " \n"+s+"\n", i+2, api.ErrLine)
	}
	refused(t, "<!MARKS>"+strings.Repeat("\n", 3992), 3992, api.ErrLine)
	refused(t, "<!MARKS>\n<DL>\n"+link("u", "")+"\n"+link("u", "")+"\n", 4, api.ErrTwice)
}

// P902: a 13 in a line's text is refused wherever it stands; in its end it is none.
func TestThirteen(t *testing.T) {
	for _, s := range []string{"\r ", "\r<DL>", "<D\rL>", link("u\r", ""), link("\ru", ""), link("u", "\r"), link("u", "a\rb"), "\r" + link("u", ""), link("u", "") + "\r ", `<A HREF="u"` + "\r>t</A>", "<H3>\r</H3>", "<H3>f\r</H3>", "<H3>f</H3>\r ", "<\rH3>f</H3>", "</DL>\r ", "\r</DL>", "\r\r"} {
		refused(t, file(s), 3, api.ErrLine)
		refused(t, file(folder("f", "", s)), 6, api.ErrLine)
		refused(t, s+"\n"+file(), 1, api.ErrLine)
		refused(t, file()+s+"\n", 4, api.ErrLine)
	}
	for _, s := range []string{"<!MARKS>\r", "<!MARKS>\r ", "\r<!MARKS>", "<!MARKS>\r\r\n<DL>\n</DL>", "\r", "\r\r\n", "\n\r"} {
		refused(t, s, strings.Count(strings.TrimRight(s, "\n<DL>/"), "\n")+1, api.ErrLine)
	}
	loads(t, strings.ReplaceAll(file(link("u", ""), "", folder("f")), "\n", "\r\n"), c(api.Tree{d("f", nil)}, l("u", "")))
}

// links are n lines, each of a place of its own.
func links(n int) []string {
	var l []string
	for i := range n {
		l = append(l, `<A HREF="`+string([]byte{"0123456789abcdef"[i/16], "0123456789abcdef"[i%16]})+`"></A>`)
	}
	return l
}

// P902: nothing that counts; how many bytes, and how many edges: that is told behind all of the lines' faults.
func TestTooMuch(t *testing.T) {
	for _, s := range []string{"", "\n", " ", "\t", "\r\n", " \t\n \r\n\t", strings.Repeat("\n", 4000), strings.Repeat(" ", 4000), strings.Repeat("\r\n", 2000)} {
		refused(t, s, 0, api.ErrNone)
	}
	for _, s := range []string{"\n", " ", "x", "\r", "<", "<!MARKS>\n"} {
		refused(t, strings.Repeat(s, 4001), 0, api.ErrLong)
		refused(t, strings.Repeat(s, 4001)[:4001], 0, api.ErrLong)
	}
	refused(t, x(4000), 1, api.ErrLine)
	loads(t, file()+strings.Repeat("\n", 4000-len(file())), c(nil))
	loads(t, strings.Repeat(" ", 4000-len(file()))+file(), c(nil))
	refused(t, file()+strings.Repeat("\n", 4001-len(file())), 0, api.ErrLong)
	refused(t, "x"+strings.Repeat("\n", 4000), 0, api.ErrLong)
	for n := 197; n < 202; n++ {
		s := file(links(n)...)
		if 2+2*n > 400 {
			refused(t, s, 0, api.ErrMany)
		} else if got, line, err := marks.Load(s); err != api.OK || line != 0 || tree.Size(got) != 2+2*n {
			t.Errorf("P902: %d edges, %d, %v", tree.Size(got), line, err)
		}
	}
	refused(t, file(append(links(198), folder("f"))...), 0, api.ErrMany)
	refused(t, file(append(links(197), folder("f"), link("u", ""))...), 0, api.ErrMany)
	loads(t, file(append(links(1), folder("f"))...), c(api.Tree{d("f", nil)}, l("00", "")))
	s := file(links(210)...)
	refused(t, s, 0, api.ErrMany)
	refused(t, s+"x", 214, api.ErrLine)
	refused(t, strings.TrimSuffix(s, "</DL>\n"), 212, api.ErrLine)
	refused(t, file(append(links(210), link("00", ""))...), 213, api.ErrTwice)
	refused(t, file(append(links(210), nested(5))...), 221, api.ErrDeep)
	refused(t, s+strings.Repeat("\n", 4001-len(s)), 0, api.ErrLong)
}

// sameLoad holds Load against the chapter anew.
func sameLoad(t *testing.T, s string) {
	t.Helper()
	got, line, err := marks.Load(s)
	want, at, fault := plainLoad(s)
	if tree.Text(got) != tree.Text(want) || line != at || err != fault {
		t.Fatalf("P901, P902: %q: %s, %d, %v, not %s, %d, %v", s, tree.Text(got), line, err, tree.Text(want), at, fault)
	}
}

// P901, P902: all short files of lines that count.
func TestLoadAllLines(t *testing.T) {
	for _, s := range over([]string{"<!MARKS>\n", "<DL>\n", "</DL>\n", "<H3>f</H3>\n", link("u", "1") + "\n", " \r\n"}, 5) {
		sameLoad(t, s)
		sameLoad(t, "<!MARKS>\n<DL>\n"+s)
		sameLoad(t, file(folder("f", s)))
	}
	for _, s := range over([]string{"<H3>f</H3>\n<DL>\n", "<H3>g</H3>\n\n<DL>\n", "</DL>\n", link("u", "1") + "\r\n", link("v", "") + "\n"}, 5) {
		sameLoad(t, file(s))
		sameLoad(t, "<!MARKS>\n<DL>\n"+s+"</DL>")
		sameLoad(t, file(nested(3, s)))
	}
	for _, s := range over([]string{"<H3>f</H3>\n<DL>\n", "</DL>\n"}, 10) {
		sameLoad(t, "<!MARKS>\n<DL>\n"+s)
	}
}

// P901, P902: all short texts of what counts in a line.
func TestLoadAllBytes(t *testing.T) {
	for _, s := range append(over(bytesOf("& <\"\r\n;"), 4), over([]string{"&", "amp;", "lt", ";", ">", "\""}, 4)...) {
		sameLoad(t, s)
		sameLoad(t, file(s))
		sameLoad(t, file(link(s, s)))
		sameLoad(t, file(link("u", s)))
		sameLoad(t, file(folder(s)))
		sameLoad(t, s+file()+s)
	}
	for _, s := range over([]string{"<A HREF=\"", "\">", "</A>", "<H3>", "</H3>", "<DL>", "u", " "}, 5) {
		sameLoad(t, file(s, "<DL>", "</DL>"))
	}
}

// P901, P902: each byte, at each place of a line.
func TestLoadEveryByte(t *testing.T) {
	for n := range 256 {
		one := string([]byte{byte(n)})
		for _, s := range []string{one, one + "a", "a" + one, "a" + one + "a", one + one, "&" + one, one + "amp;", "&amp;" + one, "&am" + one + ";"} {
			sameLoad(t, s)
			sameLoad(t, file(s))
			sameLoad(t, file(link(s, "t"), link("u", s), folder(s)))
			sameLoad(t, file(link("u", s)))
			sameLoad(t, file(folder(s)))
			for _, line := range []string{link("u", "t"), "<H3>f</H3>\n<DL>\n</DL>"} {
				sameLoad(t, file(s+line))
				sameLoad(t, file(line+s))
			}
			sameLoad(t, s+file()+s)
			sameLoad(t, "<!MARKS>"+s+"\n<DL>\n</DL>")
			sameLoad(t, "<!MARKS>\n<DL>"+s+"\n</DL>"+s)
		}
		for _, line := range []string{"<!MARKS>", "<DL>", link("u", "t"), "<H3>f</H3>", "</DL>"} {
			for i := range len(line) {
				whole := "<!MARKS>\n<DL>\n" + link("u", "t") + "\n<H3>f</H3>\n<DL>\n</DL>\n</DL>\n"
				sameLoad(t, strings.Replace(whole, line, line[:i]+one+line[i+1:], 1))
				sameLoad(t, strings.Replace(whole, line, line[:i]+one+line[i:], 1))
			}
		}
	}
}

// P901, P902: files of many kinds of lines; P1: and what is no file at all.
func TestLoadRandom(t *testing.T) {
	r := rand.New(rand.NewSource(9))
	for range 1200 {
		s := randomFile(r)
		if _, line, err := marks.Load(s); line != 0 || err != api.OK {
			t.Fatalf("P902: %q: %d, %v", s, line, err)
		}
		for range 4 {
			sameLoad(t, s)
			s = spoilt(r, s)
		}
		bytes := []byte(s)
		r.Read(bytes)
		sameLoad(t, string(bytes))
	}
	for range 100 {
		sameLoad(t, fmt.Sprint(file(), r.Int()))
	}
}
