package marks_test

import (
	"fmt"
	"math/rand"
	"strings"
	"testing"

	"cadence/api"
	"cadence/marks"
	"cadence/tree"
)

// roomy is t with spare room behind each list, in which something stands.
func roomy(t api.Tree) api.Tree {
	all := make(api.Tree, 0, len(t)+2)
	for _, x := range t {
		all = append(all, e(x.Name, roomy(x.T)...))
	}
	return append(all, e("links", l("spare", "1")), d("spare", nil))[:len(t)]
}

// written is all that a tree's memory holds, its spare room too.
func written(t api.Tree) string {
	var s strings.Builder
	for i, x := range t[:cap(t)] {
		fmt.Fprintf(&s, "%t %q(%s)", i < len(t), x.Name, written(x.T))
	}
	return s.String()
}

// lists are all lists of t, its own too.
func lists(t api.Tree) []api.Tree {
	l := []api.Tree{t}
	for _, x := range t {
		l = append(l, lists(x.T)...)
	}
	return l
}

// shares tells whether two of the lists have memory in common: each is written over wholly, and then looked at again.
func shares(l []api.Tree) bool {
	for i, t := range l {
		for j := range t[:cap(t)] {
			t[:cap(t)][j] = e(fmt.Sprint("list ", i))
		}
	}
	for i, t := range l {
		for _, x := range t[:cap(t)] {
			if x.Name != fmt.Sprint("list ", i) {
				return true
			}
		}
	}
	return false
}

// someTrees fit, or do not.
func someTrees() []api.Tree {
	return []api.Tree{c(nil), c(nil, l("u", "1"), l("w", "&")), c(api.Tree{d("f", api.Tree{d("h", nil, l("u", ""))}, l("u", "2")), d("g", nil)}, l("v", "")), within(4, c(nil, l("u", "2"))), nil, c(nil)[:1], c(nil, e("u")), within(5, c(nil)), c(nil, l("", "")), {e("links"), e("folders")}, c(nil, l("v", ""), l("u", "")), c(nil, l("u", x(81)))}
}

func someFiles() []string {
	return []string{file(), file(link("u", "1")), file(link("v", ""), folder("f", " ", folder("g"), "\t"+link("u", "1")), "", folder("h", link("u", ""))), strings.ReplaceAll(file(folder("g", link("w", "&amp;"))), "\n", "\r\n") + "\t", "", "\n", "x", "<!MARKS>\n<DL>", file(link("u", ""), link("u", ""))}
}

// P2, P3: a tree that is handed in stays as it is, its spare room too, which does not count; the same calls answer the same.
func TestHandedIn(t *testing.T) {
	for i, plain := range someTrees() {
		x := roomy(plain)
		was := written(x)
		if marks.Fits(x) != marks.Fits(plain) || marks.Fits(x) != marks.Fits(plain) {
			t.Errorf("P2, P3: %d: Fits", i)
		}
		for _, s := range someFiles() {
			want, err := marks.Put(plain, s)
			for range 2 {
				if got, again := marks.Put(x, s); got != want || again != err {
					t.Errorf("P2, P3: %d into %q: %q, %v, not %q, %v", i, s, got, again, want, err)
				}
			}
		}
		want, err := marks.Create(plain)
		if got, again := marks.Create(x); got != want || again != err {
			t.Errorf("P2, P3: %d created: %q, %v, not %q, %v", i, got, again, want, err)
		}
		if written(x) != was {
			t.Errorf("P2: %d is changed", i)
		}
	}
}

// P2: a list that stands in a tree twice is one as any other.
func TestListTwice(t *testing.T) {
	links := roomy(api.Tree{l("u", "1")})
	in := roomy(api.Tree{{Name: "folders"}, {Name: "links", T: links}})
	folders := roomy(api.Tree{{Name: "f", T: in}, {Name: "g", T: in}})
	x := api.Tree{{Name: "folders", T: api.Tree{{Name: "f", T: in}, {Name: "h", T: api.Tree{{Name: "folders", T: folders}, {Name: "links", T: links}}}}}, {Name: "links", T: links}}
	u := link("u", "1")
	if got, err := marks.Put(x, file(folder("h", folder("g")))); got != file(folder("h", folder("g", u), u, folder("f", u)), u, folder("f", u)) || err != api.OK {
		t.Errorf("P2, P903: %q, %v", got, err)
	}
}

// P2, P3: Load answers new memory each time, and no two lists share any.
func TestNewMemory(t *testing.T) {
	three := folder("b", link("v", "2"), link("u", "1"), folder("c", link("z", ""), link("a", "")), link("w", ""), folder("a"), folder("d"))
	for _, s := range []string{file(), file(link("u", "")), file(folder("c"), folder("b"), folder("a")), file(three, link("u", "1"), folder("x", three, folder("y"))), file(links(199)...), file(nested(4, link("u", ""), link("a", ""), link("b", "")))} {
		first, _, _ := marks.Load(s)
		second, _, _ := marks.Load(s)
		want := tree.Text(second)
		if tree.Text(first) != want || len(first) != 2 {
			t.Errorf("P3: Load(%.30q)", s)
		}
		if shares(append(lists(first), lists(second)...)) {
			t.Errorf("P2: what Load(%.30q) answers shares memory", s)
		}
		if third, _, _ := marks.Load(s); tree.Text(third) != want {
			t.Errorf("P2, P3: Load(%.30q) is another one behind a change of its answer", s)
		}
	}
}

// P2: no list and an empty one are the same.
func TestEmptyLists(t *testing.T) {
	for _, no := range []api.Tree{nil, {}} {
		empty := api.Tree{{Name: "folders", T: no}, {Name: "links", T: no}}
		x := api.Tree{{Name: "folders", T: api.Tree{{Name: "f", T: empty}, {Name: "g", T: empty}}}, {Name: "links", T: api.Tree{{Name: "u", T: api.Tree{{Name: "1", T: no}}}}}}
		if got, err := marks.Put(x, file(link("v", ""), folder("f", link("u", "")))); got != file(folder("f"), link("u", "1"), folder("g")) || err != api.OK || marks.Fits(x) != api.OK {
			t.Errorf("P2: %q, %v", got, err)
		}
		for i, x := range []api.Tree{no, c(nil, api.Edge{Name: "u", T: no}), c(api.Tree{{Name: "f", T: no}})} {
			if err := marks.Fits(x); err != api.ErrFit {
				t.Errorf("P2: %d: %v", i, err)
			}
		}
		if got, err := marks.Put(empty, file(link("u", ""))+" "); got != file()+" " || err != api.OK || marks.Fits(empty) != api.OK {
			t.Errorf("P2: %q, %v", got, err)
		}
	}
}

// P1, P902: trees too deep and too wide end with tree.Check's error, and stay.
func TestTreesTooGreat(t *testing.T) {
	var wide, names, deep, folders api.Tree
	for i := range 65536 {
		wide = append(wide, e(fmt.Sprintf("%05d", i)))
		names = append(names, e(fmt.Sprintf("%05d", i)))
	}
	for range 65536 {
		deep = api.Tree{e("d", deep...)}
	}
	for range 16384 {
		folders = c(api.Tree{e("f", folders...)})
	}
	for i, want := range []api.Errno{api.ErrMany, api.ErrMany, api.ErrDeep, api.ErrDeep, api.ErrLong, api.ErrLong, api.ErrLong} {
		x := []api.Tree{wide, c(nil, names[:65534]...), deep, folders, {e(x(1 << 20))}, c(nil, l("u", x(1<<20))), c(api.Tree{d(x(1<<20), nil)})}[i]
		was := tree.Bytes(x)
		if err := marks.Fits(x); err != want {
			t.Errorf("P1, P902: %d: %v, not %v", i, err, want)
		}
		if got, err := marks.Put(x, file(link("u", "1"))); got != "" || err != want {
			t.Errorf("P1, P903: %d: %q, %v, not %v", i, got, err, want)
		}
		if got, err := marks.Create(x); got != "" || err != want {
			t.Errorf("P1, P903: %d: %q, %v, not %v", i, got, err, want)
		}
		if string(tree.Bytes(x)) != string(was) {
			t.Errorf("P2: %d is changed", i)
		}
	}
}

// P1: files of any bytes end, greater ones too; P4: beside an error there is nothing.
func TestAnyBytes(t *testing.T) {
	r := rand.New(rand.NewSource(9))
	for range 3000 {
		var s strings.Builder
		for range r.Intn(30) {
			s.WriteString(pick(r, []string{"<!MARKS>\n", "<DL>", "</DL>", "<H3>", "</H3>", `<A HREF="`, `">`, "</A>", "&amp;", "&", "\n", "\n", "\r\n", "\r", " ", "x", "\x00", "\xff", link("u", "1") + "\n", "<H3>f</H3>\n<DL>\n"}))
		}
		for _, s := range []string{s.String(), "<!MARKS>\n<DL>\n" + s.String(), file(s.String()), file() + s.String(), file(link("u", s.String()))} {
			sameLoad(t, s)
			got, err := marks.Put(c(nil), s)
			if _, _, want := marks.Load(s); err != want || err != api.OK && got != "" {
				t.Fatalf("P4, P903: %q: %q, %v, not %v", s, got, err, want)
			}
		}
	}
	for _, s := range []string{"<", "&amp;", "\r", "\n", "x", " ", "<DL>\n", "</DL>\n", "<H3>f</H3>\n<DL>\n", "\xff"} {
		refused(t, strings.Repeat(s, 1<<20), 0, api.ErrLong)
		refused(t, "<!MARKS>\n<DL>\n"+strings.Repeat(s, 1<<20), 0, api.ErrLong)
	}
}
