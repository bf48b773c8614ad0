package card_test

import (
	"cmp"
	"maps"
	"math/rand"
	"regexp"
	"slices"
	"strings"

	"cadence/api"
	"cadence/tree"
)

// e is an edge with these below it.
func e(name string, below ...api.Edge) api.Edge { return api.Edge{Name: name, T: below} }

// p is a property's edge, or a word's with ids that have no content.
func p(name string, values ...string) api.Edge {
	x := e(name)
	for _, value := range values {
		x.T = append(x.T, e(value))
	}
	return x
}

// b is an id's edge: what stands in its block, and its properties.
func b(id string, blocks, props api.Tree) api.Edge {
	return e(id, e("blocks", blocks...), e("props", props...))
}

// c is a tree of one block, A x, that has these properties.
func c(props ...api.Edge) api.Tree { return api.Tree{e("A", b("x", nil, props))} }

// x is a text of n bytes.
func x(n int) string { return strings.Repeat("x", n) }

// over are all texts of up to n of these pieces.
func over(pieces []string, n int) []string {
	l := []string{""}
	for first := 0; n > 0; n-- {
		last := len(l)
		for ; first < last; first++ {
			for _, piece := range pieces {
				l = append(l, l[first]+piece)
			}
		}
	}
	return l
}

func bytesOf(s string) []string { return strings.Split(s, "") }

// What follows is the chapter anew, by regular expressions and maps, so that the package is not its own witness.

var (
	blankText = regexp.MustCompile(`^[ \t]*$`)
	edgeText  = regexp.MustCompile(`^(BEGIN|END):([A-Z0-9-]{1,20})$`)
	propText  = regexp.MustCompile(`^([A-Z0-9-]{1,20}):((?s:[^\\\r\n]|\\[nr\\])*)$`)
	wordText  = regexp.MustCompile(`^[A-Z0-9-]{1,20}$`)
	plain     = regexp.MustCompile(`^[^\r\n]+$`)
	slashed   = regexp.MustCompile(`\\[nr\\]`)
)

// isPlain tells whether it is a plain name (W5).
func isPlain(s string) bool { return len(s) <= 80 && plain.MatchString(s) }

// node is a block, in the one around it; the file is one without a word.
type node struct {
	word, id string
	around   *node
	kids     []*node
	props    map[[2]string]bool // names and values
}

// key tells a node from all others of its file, or of its tree.
func (n *node) key() string {
	if n.around == nil {
		return ""
	}
	return n.around.key() + "\n" + n.word + ":" + n.id
}

// all are all nodes, by their keys.
func (n *node) all() map[string]*node {
	m := map[string]*node{n.key(): n}
	for _, x := range n.kids {
		maps.Copy(m, x.all())
	}
	return m
}

func (n *node) tree() api.Tree {
	var t api.Tree
	for _, x := range n.kids {
		var props api.Tree
		for p := range x.props {
			props = tree.Put(props, p[:], nil)
		}
		t = tree.Put(t, []string{x.word, x.id}, b("", x.tree(), props).T)
	}
	return t
}

// told is what a tree that fits says.
func told(t api.Tree) *node {
	n := &node{}
	for _, word := range t {
		for _, id := range word.T {
			x := told(id.T[0].T)
			x.word, x.id, x.around, x.props = word.Name, id.Name, n, map[[2]string]bool{}
			for _, name := range id.T[1].T {
				for _, value := range name.T {
					x.props[[2]string{name.Name, value.Name}] = true
				}
			}
			n.kids = append(n.kids, x)
		}
	}
	return n
}

// plainLine is a line of a file.
type plainLine struct {
	text, end   string
	kind, means string // BEGIN, END, and a word; or a property's word, and its value
	fine, blank bool
	of          *node
}

func plainLines(s string) []*plainLine {
	var l []*plainLine
	for whole := range strings.SplitAfterSeq(s, "\n") {
		if whole == "" {
			continue
		}
		text := strings.TrimSuffix(whole, "\n")
		if text != whole {
			text = strings.TrimSuffix(text, "\r")
		}
		x := &plainLine{text: text, end: whole[len(text):], blank: blankText.MatchString(text)}
		x.read()
		l = append(l, x)
	}
	return l
}

func (l *plainLine) read() {
	m := edgeText.FindStringSubmatch(l.text)
	if m != nil {
		l.kind, l.means, l.fine = m[1], m[2], true
		return
	}
	if m = propText.FindStringSubmatch(l.text); m == nil || m[1] == "BEGIN" || m[1] == "END" {
		return
	}
	l.kind = m[1]
	l.means = slashed.ReplaceAllStringFunc(m[2], func(s string) string {
		return map[string]string{`\n`: "\n", `\r`: "\r", `\\`: `\`}[s]
	})
	l.fine = len(l.means) <= 80
}

// plainLoad is P802's Load.
func plainLoad(s string) (api.Tree, int, api.Errno) {
	if len(s) > 4000 {
		return nil, 0, api.ErrLong
	}
	whole, line, e := plainRead(plainLines(s))
	if e != api.OK {
		return nil, line, e
	}
	t := whole.tree()
	if tree.Size(t) > 400 {
		return nil, 0, api.ErrMany
	}
	return t, 0, api.OK
}

// plainRead tells what lines say, and of each of them to which block it belongs.
func plainRead(l []*plainLine) (*node, int, api.Errno) {
	at, deep := &node{}, 0
	for i, x := range l {
		p := [2]string{x.kind, x.means}
		twin := func(n *node) bool { return n.word == at.word && n.id == at.id }
		switch {
		case x.blank:
		case !x.fine:
			return nil, i + 1, api.ErrLine
		case x.kind == "BEGIN" && deep == 3:
			return nil, i + 1, api.ErrDeep
		case x.kind == "BEGIN":
			at, deep = &node{word: x.means, around: at, props: map[[2]string]bool{}}, deep+1
		case deep == 0, x.kind == "END" && (x.means != at.word || at.id == ""), x.kind == "ID" && !isPlain(x.means):
			return nil, i + 1, api.ErrLine
		case x.kind == "END" && slices.ContainsFunc(at.around.kids, twin), x.kind == "ID" && at.id != "", at.props[p]:
			return nil, i + 1, api.ErrTwice
		case x.kind == "ID":
			at.id = x.means
		case x.kind != "END":
			at.props[p] = true
		}
		x.of = at
		if x.kind == "END" {
			at.around.kids = append(at.around.kids, at)
			at, deep = at.around, deep-1
		}
	}
	if deep > 0 {
		return nil, len(l), api.ErrLine
	}
	return at, 0, api.OK
}

// plainFits is P802's Fits.
func plainFits(t api.Tree) api.Errno {
	if e := tree.Check(t); e != api.OK {
		return e
	}
	if !plainFit(t, 1) {
		return api.ErrFit
	}
	return api.OK
}

func plainFit(t api.Tree, deep int) bool {
	if len(t) > 0 && deep > 3 {
		return false
	}
	for _, word := range t {
		if !wordText.MatchString(word.Name) || len(word.T) < 1 {
			return false
		}
		for _, id := range word.T {
			if !isPlain(id.Name) || !slices.Equal(tree.Names(id.T), []string{"blocks", "props"}) || !plainFit(id.T[0].T, deep+1) {
				return false
			}
			for _, name := range id.T[1].T {
				if !wordText.MatchString(name.Name) || slices.Contains([]string{"ID", "BEGIN", "END"}, name.Name) || len(name.T) < 1 || tree.Depth(name.T) > 1 {
					return false
				}
			}
		}
	}
	return true
}

// slash is a value written anew.
func slash(s string) string {
	s = strings.Join(strings.Split(s, `\`), `\\`)
	return strings.Join(strings.Split(strings.Join(strings.Split(s, "\n"), `\n`), "\r"), `\r`)
}

// freshProps are the texts of properties that a block of a file has not.
func freshProps(want, have map[[2]string]bool) []string {
	var l []string
	for _, p := range slices.SortedFunc(maps.Keys(want), func(p, q [2]string) int { return slices.Compare(p[:], q[:]) }) {
		if !have[p] {
			l = append(l, p[0]+":"+slash(p[1]))
		}
	}
	return l
}

// freshBlocks are the texts of the blocks in one that a file has not.
func freshBlocks(want *node, have map[string]*node) []string {
	var l []string
	kids := slices.SortedFunc(slices.Values(want.kids), func(m, n *node) int {
		return cmp.Or(cmp.Compare(m.word, n.word), cmp.Compare(m.id, n.id))
	})
	for _, x := range kids {
		if have[x.key()] == nil {
			l = append(append(l, "BEGIN:"+x.word, "ID:"+slash(x.id)), freshProps(x.props, nil)...)
			l = append(append(l, freshBlocks(x, nil)...), "END:"+x.word)
		}
	}
	return l
}

// plainPut is P803's Put, of a file that may be and a tree that fits.
func plainPut(t api.Tree, s string) (string, api.Errno) {
	l := plainLines(s)
	end := "\n"
	if len(l) > 0 && l[0].end != "" {
		end = l[0].end
	}
	whole, _, _ := plainRead(l)
	have, want := whole.all(), told(t).all()
	var made []*plainLine
	add := func(texts []string) {
		for _, text := range texts {
			made = append(made, &plainLine{text: text, end: end})
		}
	}
	for _, x := range l {
		k := x.of.key()
		if want[k] == nil {
			continue
		}
		if x.kind == "END" {
			add(freshBlocks(want[k], have))
		}
		own := !x.blank && x.kind != "ID" && x.kind != "BEGIN" && x.kind != "END"
		if !own || want[k].props[[2]string{x.kind, x.means}] {
			made = append(made, x)
		}
		if x.kind == "ID" {
			add(freshProps(want[k].props, have[k].props))
		}
	}
	add(freshBlocks(want[""], have))
	return joined(made, end)
}

// joined are the lines of a file that is made, if it is not too long.
func joined(made []*plainLine, end string) (string, api.Errno) {
	whole := ""
	for i, x := range made {
		if x.end == "" && i < len(made)-1 {
			x.end = end
		}
		whole += x.text + x.end
	}
	if len(whole) > 4000 {
		return "", api.ErrLong
	}
	return whole, api.OK
}

func someWords() []string { return []string{"A", "A-", "B", "BEGIN", "ID", "0", "X-1"} }
func someIDs() []string   { return []string{"x", "y", ":", " ", `\`, `a\n`, "\xff", "END:A"} }
func someNames() []string { return []string{"N", "N-", "M", "-", "TEL", "A"} }
func someValues() []string {
	return []string{"", "1", "2", " 1 ", `\`, "\n", "a\r\nb", `\n`, "a:b", "é\x00", "\t"}
}

func pick(r *rand.Rand, l []string) string { return l[r.Intn(len(l))] }

// randomTree fits, if odd is false; else it may.
func randomTree(r *rand.Rand, odd bool) api.Tree {
	t := randomBlocks(r, 3)
	if !odd || r.Intn(3) == 0 {
		return t
	}
	var path []string
	for range r.Intn(4) {
		path = append(path, pick(r, someWords()), pick(r, someIDs()), "blocks")
	}
	last := []string{pick(r, append(someWords(), "a", "")), pick(r, append(someIDs(), "", "a\n", "\r")), pick(r, []string{"blocks", "props", "more"}), pick(r, append(someNames(), "ID", "END", "n")), pick(r, someValues()), "more"}
	path = append(path, last[:1+r.Intn(6)]...)
	if r.Intn(2) == 0 {
		return tree.Drop(t, path)
	}
	return tree.Put(t, path, randomBlocks(r, 1))
}

// randomBlocks are at most as deep as that.
func randomBlocks(r *rand.Rand, deep int) api.Tree {
	var t api.Tree
	for range r.Intn(4) {
		var blocks, props api.Tree
		if deep > 1 {
			blocks = randomBlocks(r, deep-1)
		}
		for range r.Intn(4) {
			props = tree.Put(props, []string{pick(r, someNames()), pick(r, someValues())}, nil)
		}
		t = tree.Put(t, []string{pick(r, someWords()), pick(r, someIDs())}, b("", blocks, props).T)
	}
	return t
}

// randomFile is one that may be, with lines in any order.
func randomFile(r *rand.Rand) string {
	ends := []string{"\n", "\n", "\r\n"}
	var s strings.Builder
	for i, text := range randomLines(r, told(randomTree(r, false))) {
		if i > 0 {
			s.WriteString(pick(r, ends))
		}
		s.WriteString(text)
	}
	if s.Len() == 0 {
		return pick(r, append(ends, "", " ", "\t\n"))
	}
	return s.String() + pick(r, append(ends, "", "", ""))
}

func randomLines(r *rand.Rand, n *node) []string {
	var parts [][]string
	for _, x := range n.kids {
		parts = append(parts, randomLines(r, x))
	}
	for _, text := range freshProps(n.props, nil) {
		parts = append(parts, []string{text})
	}
	for range r.Intn(3) {
		parts = append(parts, []string{pick(r, []string{"", " ", "\t "})})
	}
	if n.around != nil {
		parts = append(parts, []string{"ID:" + slash(n.id)})
	}
	r.Shuffle(len(parts), func(i, j int) { parts[i], parts[j] = parts[j], parts[i] })
	if n.around == nil {
		return slices.Concat(parts...)
	}
	return slices.Concat([]string{"BEGIN:" + n.word}, slices.Concat(parts...), []string{"END:" + n.word})
}

// spoilt is a file in which lines are there twice, or are exchanged, or go, or a piece is put or is taken out.
func spoilt(r *rand.Rand, s string) string {
	s += "\n"
	l := strings.SplitAfter(s, "\n")
	i, j := r.Intn(len(l)), r.Intn(len(l))
	at := r.Intn(len(s))
	to := at + r.Intn(min(len(s)-at, 3)+1)
	switch r.Intn(6) {
	case 0:
		return strings.Join(slices.Insert(l, i, l[j]), "")
	case 1:
		return strings.Join(slices.Delete(l, i, i+1), "")
	case 2:
		l[i], l[j] = l[j], l[i]
		return strings.Join(l, "")
	case 3:
		return s[:at] + s[to:]
	}
	return s[:at] + pick(r, []string{":", `\`, `\\`, "\r", "\n", "a", "A", "-", "ID:x\n", "N:1\n", "BEGIN:A\n", "END:A\n", " ", x(80), x(81)}) + s[to:]
}
