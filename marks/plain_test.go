package marks_test

import (
	"math/rand"
	"regexp"
	"slices"
	"strings"

	"cadence/api"
	"cadence/tree"
)

// e is an edge with these below it.
func e(name string, below ...api.Edge) api.Edge { return api.Edge{Name: name, T: below} }

// l is a link's edge.
func l(place, title string) api.Edge { return e(place, e(title)) }

// c is a content.
func c(folders api.Tree, links ...api.Edge) api.Tree {
	return api.Tree{e("folders", folders...), e("links", links...)}
}

// d is a folder's edge.
func d(name string, folders api.Tree, links ...api.Edge) api.Edge {
	return e(name, c(folders, links...)...)
}

// x is a text of n bytes.
func x(n int) string { return strings.Repeat("x", n) }

// file is one of these lines.
func file(lines ...string) string {
	return "<!MARKS>\n<DL>\n" + block(lines...) + "</DL>\n"
}

// folder are a folder's lines, and between its DL and </DL> these.
func folder(name string, lines ...string) string {
	return "<H3>" + name + "</H3>\n<DL>\n" + block(lines...) + "</DL>"
}

func block(lines ...string) string {
	return strings.Join(append(slices.Clone(lines), ""), "\n")
}

func link(place, title string) string { return `<A HREF="` + place + `">` + title + `</A>` }

// over are all texts of up to n of these pieces.
func over(pieces []string, n int) []string {
	l := []string{""}
	for first := 0; n > 0; n-- {
		last := len(l)
		for ; first < last; first++ {
			for _, piece := range pieces {
				l = append(l, l[first]+piece)
			}
		}
	}
	return l
}

func bytesOf(s string) []string { return strings.Split(s, "") }

// What follows is the chapter anew, line by line, by regular expressions and paths, so that the package is not its own witness.

const meant = `((?:[^&<>"\r\n]|&(?:amp|lt|gt|quot);)*)`

var (
	blankText = regexp.MustCompile(`^[ \t]*$`)
	wordText  = regexp.MustCompile(`^[ \t]*(<!MARKS>|<DL>|</DL>)[ \t]*$`)
	headText  = regexp.MustCompile(`^[ \t]*<H3>` + meant + `</H3>[ \t]*$`)
	linkText  = regexp.MustCompile(`^[ \t]*<A HREF="` + meant + `">` + meant + `</A>[ \t]*$`)
	entity    = regexp.MustCompile(`&[a-z]+;`)
	plain     = regexp.MustCompile(`^[^\r\n]+$`)
)

// isPlain tells whether it is a plain name (W5).
func isPlain(s string) bool { return len(s) <= 80 && plain.MatchString(s) }

func meaning(s string) string {
	return entity.ReplaceAllStringFunc(s, func(s string) string {
		return map[string]string{"&amp;": "&", "&lt;": "<", "&gt;": ">", "&quot;": `"`}[s]
	})
}

// escaped is what is written anew.
func escaped(s string) string {
	s = strings.Join(strings.Split(s, "&"), "&amp;")
	s = strings.Join(strings.Split(s, "<"), "&lt;")
	s = strings.Join(strings.Split(s, ">"), "&gt;")
	return strings.Join(strings.Split(s, `"`), "&quot;")
}

// plainLine is a line of a file. Its kind: empty, if it does not count; a word; H3; A; or `?`.
type plainLine struct {
	text, end   string
	kind        string
	name, title string
	at          [2]int   // where the title stands
	path        []string // of the content that it goes with
}

func plainLines(s string) []*plainLine {
	var l []*plainLine
	for whole := range strings.SplitAfterSeq(s, "\n") {
		if whole == "" {
			continue
		}
		text := strings.TrimSuffix(whole, "\n")
		if text != whole {
			text = strings.TrimSuffix(text, "\r")
		}
		x := &plainLine{text: text, end: whole[len(text):]}
		x.read()
		l = append(l, x)
	}
	return l
}

func (l *plainLine) read() {
	l.kind = "?"
	if blankText.MatchString(l.text) {
		l.kind = ""
	} else if m := wordText.FindStringSubmatch(l.text); m != nil {
		l.kind = m[1]
	} else if m := headText.FindStringSubmatch(l.text); m != nil && isPlain(meaning(m[1])) {
		l.kind, l.name = "H3", meaning(m[1])
	} else if m := linkText.FindStringSubmatchIndex(l.text); m != nil {
		place, title := meaning(l.text[m[2]:m[3]]), meaning(l.text[m[4]:m[5]])
		if isPlain(place) && len(title) <= 80 {
			l.kind, l.name, l.title, l.at = "A", place, title, [2]int{m[4], m[5]}
		}
	}
}

// plainLoad is P902's Load.
func plainLoad(s string) (api.Tree, int, api.Errno) {
	if len(s) > 4000 {
		return nil, 0, api.ErrLong
	}
	if strings.Trim(s, " \t\n") == "" || strings.Trim(strings.ReplaceAll(s, "\r\n", "\n"), " \t\n") == "" {
		return nil, 0, api.ErrNone
	}
	t, line, e := plainRead(plainLines(s))
	if e != api.OK {
		return nil, line, e
	}
	if tree.Size(t) > 400 {
		return nil, 0, api.ErrMany
	}
	return t, 0, api.OK
}

// below is a path that goes on from another one.
func below(path []string, names ...string) []string {
	return append(slices.Clone(path), names...)
}

// plainRead tells what lines say, and of each of them with which content it goes.
func plainRead(l []*plainLine) (api.Tree, int, api.Errno) {
	var t api.Tree
	var path []string
	want := "<!MARKS>"
	for i, x := range l {
		at := below(path, map[string]string{"H3": "folders"}[x.kind], x.name)
		if x.kind == "A" {
			at = below(path, "links", x.name)
		}
		_, twice := tree.Get(t, at)
		switch {
		case x.kind == "":
		case !strings.Contains(" "+want+" ", " "+x.kind+" "):
			return nil, i + 1, api.ErrLine
		case x.kind == "H3" && len(path) == 8:
			return nil, i + 1, api.ErrDeep
		case twice:
			return nil, i + 1, api.ErrTwice
		case x.kind == "<!MARKS>":
			want = "<DL>"
		case x.kind == "<DL>":
			t = tree.Put(tree.Put(t, below(path, "folders"), nil), below(path, "links"), nil)
			want = "A H3 </DL>"
		case x.kind == "A":
			t = tree.Put(t, at, api.Tree{e(x.title)})
		case x.kind == "H3":
			t, path, want = tree.Put(t, at, nil), at, "<DL>"
		}
		x.path = path
		if x.kind == "</DL>" && len(path) == 0 {
			want = "nothing"
		} else if x.kind == "</DL>" {
			path = path[:len(path)-2]
		}
	}
	if want != "nothing" {
		return nil, len(l), api.ErrLine
	}
	return t, 0, api.OK
}

// plainFits is P902's Fits.
func plainFits(t api.Tree) api.Errno {
	if e := tree.Check(t); e != api.OK {
		return e
	}
	if !plainFit(t, 0) {
		return api.ErrFit
	}
	return api.OK
}

func plainFit(t api.Tree, deep int) bool {
	if deep > 4 || !slices.Equal(tree.Names(t), []string{"folders", "links"}) {
		return false
	}
	fits := true
	for _, x := range t[0].T {
		fits = fits && isPlain(x.Name) && plainFit(x.T, deep+1)
	}
	for _, x := range t[1].T {
		fits = fits && isPlain(x.Name) && tree.Size(x.T) == 1 && (x.T[0].Name == "" || isPlain(x.T[0].Name))
	}
	return fits
}

// fresh are the texts of what a content of a tree has, and that of a file has not.
func fresh(want, have api.Tree) []string {
	var l []string
	get := func(t api.Tree, path ...string) api.Tree {
		x, _ := tree.Get(t, path)
		return x
	}
	for _, place := range tree.Names(get(want, "links")) {
		if _, is := tree.Get(have, []string{"links", place}); !is {
			l = append(l, link(escaped(place), escaped(get(want, "links", place)[0].Name)))
		}
	}
	for _, name := range tree.Names(get(want, "folders")) {
		if _, is := tree.Get(have, []string{"folders", name}); !is {
			l = append(append(l, "<H3>"+escaped(name)+"</H3>", "<DL>"), fresh(get(want, "folders", name), nil)...)
			l = append(l, "</DL>")
		}
	}
	return l
}

// plainPut is P903's Put, of a file that may be and a tree that fits.
func plainPut(t api.Tree, s string) (string, api.Errno) {
	l := plainLines(s)
	end := "\n"
	if len(l) > 0 && l[0].end != "" {
		end = l[0].end
	}
	old, _, _ := plainRead(l)
	var made []*plainLine
	for _, x := range l {
		want, stays := tree.Get(t, x.path)
		if !stays {
			continue
		}
		have, _ := tree.Get(old, x.path)
		if x.kind == "</DL>" {
			for _, text := range fresh(want, have) {
				made = append(made, &plainLine{text: text, end: end})
			}
		}
		if x.kind == "A" {
			title, is := tree.Get(want, []string{"links", x.name})
			if !is {
				continue
			}
			if title[0].Name != x.title {
				x.text = x.text[:x.at[0]] + escaped(title[0].Name) + x.text[x.at[1]:]
			}
		}
		made = append(made, x)
	}
	return joined(made, end)
}

// joined are the lines of a file that is made, if it is not too long.
func joined(made []*plainLine, end string) (string, api.Errno) {
	whole := ""
	for i, x := range made {
		if x.end == "" && i < len(made)-1 {
			x.end = end
		}
		whole += x.text + x.end
	}
	if len(whole) > 4000 {
		return "", api.ErrLong
	}
	return whole, api.OK
}

func somePlaces() []string {
	return []string{"u", "v", "u ", " ", "http://x/?a=1&b=2", "<", `">`, "&amp;", "\xff", "links", "w\t"}
}
func someTitles() []string {
	return []string{"", "1", "2", " 1 ", "&", `<b> "q"`, "&lt;", "é\x00", "\t", "</A>", "folders"}
}
func someNames() []string {
	return []string{"f", "g", "f ", " ", "&", "</H3>", "folders", "links", `"`, "\xff"}
}

func pick(r *rand.Rand, l []string) string { return l[r.Intn(len(l))] }

// randomTree fits, if odd is false; else it may.
func randomTree(r *rand.Rand, odd bool) api.Tree {
	t := randomContent(r, 4)
	if !odd || r.Intn(3) == 0 {
		return t
	}
	var path []string
	for range r.Intn(6) {
		path = append(path, "folders", pick(r, append(someNames(), "", "f\n", "\r")))
	}
	last := []string{"links", pick(r, append(somePlaces(), "", "u\n", "\r")), pick(r, append(someTitles(), "\n", "\r1")), "more"}
	if r.Intn(3) == 0 {
		last = []string{pick(r, []string{"folders", "more", ""}), pick(r, []string{"f", "", "folders"})}
	}
	path = append(path, last[:1+r.Intn(len(last))]...)
	if r.Intn(2) == 0 {
		return tree.Drop(t, path)
	}
	return tree.Put(t, path, randomContent(r, 1))
}

// randomContent has folders at most as deep as that.
func randomContent(r *rand.Rand, deep int) api.Tree {
	t := c(nil)
	for range r.Intn(4) {
		t = tree.Put(t, []string{"links", pick(r, somePlaces())}, api.Tree{e(pick(r, someTitles()))})
	}
	for range min(r.Intn(4), deep) {
		t = tree.Put(t, []string{"folders", pick(r, someNames())}, randomContent(r, deep-1))
	}
	return t
}

// randomFile is one that may be, with lines in any order.
func randomFile(r *rand.Rand) string {
	ends := []string{"\n", "\n", "\r\n"}
	for {
		var s strings.Builder
		l := slices.Concat(blanks(r), []string{"<!MARKS>"}, blanks(r), randomLines(r, randomContent(r, 4)), blanks(r))
		for i, text := range l {
			if i > 0 {
				s.WriteString(pick(r, ends))
			}
			s.WriteString(text)
		}
		if s.Len() < 3900 {
			return s.String() + pick(r, append(ends, "", "", ""))
		}
	}
}

// blanks are some lines that do not count.
func blanks(r *rand.Rand) []string {
	return []string{"", " ", "\t "}[:max(0, r.Intn(7)-3)]
}

// randomLines are a content's, from its DL to its </DL>.
func randomLines(r *rand.Rand, t api.Tree) []string {
	indent := func(s string) string {
		return pick(r, []string{"", "", " ", "\t\t"}) + s + pick(r, []string{"", "", " ", "\t"})
	}
	parts := [][]string{blanks(r), blanks(r)}
	for _, x := range t[0].T {
		parts = append(parts, slices.Concat([]string{indent("<H3>" + escaped(x.Name) + "</H3>")}, blanks(r), randomLines(r, x.T)))
	}
	for _, x := range t[1].T {
		parts = append(parts, []string{indent(link(escaped(x.Name), escaped(x.T[0].Name)))})
	}
	r.Shuffle(len(parts), func(i, j int) { parts[i], parts[j] = parts[j], parts[i] })
	return slices.Concat([]string{indent("<DL>")}, slices.Concat(parts...), []string{indent("</DL>")})
}

// spoilt is a file in which lines are there twice, or are exchanged, or go, or a piece is put or is taken out.
func spoilt(r *rand.Rand, s string) string {
	s += "\n"
	l := strings.SplitAfter(s, "\n")
	i, j := r.Intn(len(l)), r.Intn(len(l))
	at := r.Intn(len(s))
	to := at + r.Intn(min(len(s)-at, 3)+1)
	switch r.Intn(6) {
	case 0:
		return strings.Join(slices.Insert(l, i, l[j]), "")
	case 1:
		return strings.Join(slices.Delete(l, i, i+1), "")
	case 2:
		l[i], l[j] = l[j], l[i]
		return strings.Join(l, "")
	case 3:
		return s[:at] + s[to:]
	}
	return s[:at] + pick(r, []string{"&", "<", ">", `"`, "&amp;", "\r", "\n", "a", " ", "\n<DL>\n", "\n</DL>\n", "<!MARKS>\n", "\n<H3>f</H3>\n<DL>\n</DL>\n", "\n" + link("u", "1") + "\n", x(80), x(81)}) + s[to:]
}
