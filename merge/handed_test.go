package merge_test

import (
	"fmt"
	"slices"
	"strings"
	"testing"

	"cadence/api"
	"cadence/merge"
	"cadence/tree"
)

// roomyTree is t with spare room behind each list, in which something stands.
func roomyTree(t api.Tree) api.Tree {
	l := make(api.Tree, 0, len(t)+2)
	for _, x := range t {
		l = append(l, e(x.Name, roomyTree(x.T)...))
	}
	return append(l, e("spare", e("room")), e("a"))[:len(t)]
}

func roomy(x merge.Opt) merge.Opt {
	if !x.Is {
		return x
	}
	return merge.Opt{Is: true, T: roomyTree(x.T)}
}

func roomySchema(s api.Schema) api.Schema {
	l := make(api.Schema, 0, len(s)+1)
	for _, x := range s {
		fields := make([]api.Field, 0, len(x.Fields)+1)
		for _, f := range x.Fields {
			f.N.L = append(append(make([]string, 0, len(f.N.L)+1), f.N.L...), "spare")[:len(f.N.L)]
			fields = append(fields, f)
		}
		x.Fields = append(fields, rest(0))[:len(x.Fields)]
		l = append(l, x)
	}
	return append(l, def(rest(0)))[:len(s)]
}

// written is all that the memory of what is handed in holds, its spare room too.
func written(s api.Schema, l ...merge.Opt) string {
	var w strings.Builder
	var tell func(t api.Tree)
	tell = func(t api.Tree) {
		for i, x := range t[:cap(t)] {
			fmt.Fprintf(&w, "%t %q(", i < len(t), x.Name)
			tell(x.T)
			w.WriteString(")")
		}
	}
	for _, x := range l {
		tell(x.T)
	}
	for i, x := range s[:cap(s)] {
		fmt.Fprintf(&w, "%t %t %t", i < len(s), x.One, x.Some)
		for k, f := range x.Fields[:cap(x.Fields)] {
			fmt.Fprintf(&w, "%t %t %d %t %q", k < len(x.Fields), f.N.All, f.To, f.Need, f.N.L[:cap(f.N.L)])
		}
	}
	return w.String()
}

// lists are all lists of a tree, its own too.
func lists(t api.Tree) []api.Tree {
	l := []api.Tree{t}
	for _, x := range t {
		l = append(l, lists(x.T)...)
	}
	return l
}

// listsOf are all lists of trees, and all paths, of an answer.
func listsOf(x answer) (trees []api.Tree, paths [][]string) {
	for _, y := range []merge.Opt{x.o, x.a, x.b} {
		trees = append(trees, lists(y.T)...)
	}
	for _, y := range x.l {
		paths = append(paths, y.Path)
	}
	return trees, paths
}

// shares tells whether two of the lists have memory in common: each is written over wholly, and then looked at again.
func shares[S ~[]T, T any](l []S, mark func(string) T, marked func(T) string) bool {
	number := func(i int) string { return fmt.Sprint("list ", i) }
	for i, x := range l {
		for k := range x[:cap(x)] {
			x[:cap(x)][k] = mark(number(i))
		}
	}
	for i, x := range l {
		if slices.ContainsFunc(x[:cap(x)], func(y T) bool { return marked(y) != number(i) }) {
			return true
		}
	}
	return false
}

func sharesTrees(l []api.Tree) bool {
	return shares(l, func(s string) api.Edge { return e(s) }, func(x api.Edge) string { return x.Name })
}

func sharesPaths(l [][]string) bool {
	same := func(s string) string { return s }
	return shares(l, same, same)
}

// P2, P3: what is handed in stays as it is, its spare room too, which does not count, and is not kept; the same call answers the same.
func TestHandedIn(t *testing.T) {
	d := &die{13}
	for range 1000 {
		s, o, a, b := d.thrown()
		want := call(s, o, a, b).String()
		s2, o2, a2, b2 := roomySchema(s), roomy(o), roomy(a), roomy(b)
		was := written(s2, o2, a2, b2)
		got, again := call(s2, o2, a2, b2), call(s2, o2, a2, b2)
		if got.String() != want || again.String() != want {
			t.Fatalf("P2, P3: %v, then %v, not %s", got, again, want)
		}
		if written(s2, o2, a2, b2) != was {
			t.Fatalf("P2: what is handed in is changed: %s", want)
		}
		handed := append(append(lists(o2.T), lists(a2.T)...), lists(b2.T)...)
		sharesTrees(handed)
		for _, x := range s2 {
			for _, f := range x.Fields {
				clear(f.N.L[:cap(f.N.L)])
			}
			clear(x.Fields[:cap(x.Fields)])
		}
		clear(s2[:cap(s2)])
		if got.String() != want {
			t.Fatalf("P2: what is handed in is kept: %v, not %s", got, want)
		}
		if last := call(s, o, a, b).String(); last != want {
			t.Fatalf("P3: %s, not %s", last, want)
		}
	}
}

// P2: an answer is new memory; no two of its lists share any, nor those of two answers.
func TestNewMemory(t *testing.T) {
	d := &die{14}
	for range 1000 {
		s, o, a, b := d.thrown()
		o, a, b = roomy(o), roomy(a), roomy(b)
		x, y := call(s, o, a, b), call(s, o, a, b)
		told := x.String()
		trees, paths := listsOf(x)
		moreTrees, morePaths := listsOf(y)
		for _, z := range []merge.Opt{o, a, b} {
			trees = append(trees, lists(z.T)...)
		}
		if sharesTrees(append(trees, moreTrees...)) || sharesPaths(append(paths, morePaths...)) {
			t.Fatalf("P2: lists share memory: %s", told)
		}
		for i := range x.l[:cap(x.l)] {
			x.l[:cap(x.l)][i] = api.Conflict{Kind: 7}
		}
		if slices.ContainsFunc(y.l, func(z api.Conflict) bool { return z.Kind == 7 }) {
			t.Fatalf("P2: two answers' conflicts share memory: %s", told)
		}
	}
}

// P2: one tree, handed in as two or three, is answered as three; so is one that stands twice in a tree.
func TestOneTree(t *testing.T) {
	for i, x := range [][3]merge.Opt{{is("a b", "c"), is("a b", "c"), is("a b", "c")}, {is("a"), is("a"), is("a b", "c d")}, {is("a"), is("a b", "c d"), is("a")}, {is(), is("a b", "c d"), is("a b", "c d")}, {none(), is("a b", "c d"), none()}, {is("a b", "c"), none(), is("a b")}, {is("a b c", "d"), is("a b", "d"), is("a")}} {
		for _, s := range []api.Schema{free(), {one(rest(1)), {}}} {
			if x[1].Is && x[2].Is && !fits(s, x[1]) {
				continue
			}
			got := call(s, x[0], x[1], x[2])
			trees, _ := listsOf(got)
			if sharesTrees(append(trees, append(append(lists(x[0].T), lists(x[1].T)...), lists(x[2].T)...)...)) {
				t.Errorf("P2: %d: lists share memory", i)
			}
		}
	}
	y := of("m", "n")
	twice := merge.Opt{Is: true, T: api.Tree{e("a", y...), e("b", y...)}}
	for i, got := range []answer{call(free(), twice, twice, twice), call(free(), none(), twice, is("c")), call(free(), is("a x"), twice, is("a y")), call(free(), is("a x"), is(), twice)} {
		if trees, _ := listsOf(got); sharesTrees(append(trees, y)) {
			t.Errorf("P2: tree twice, %d: lists share memory", i)
		}
		y[0], y[1] = e("m"), e("n")
	}
}

// P2: no list and an empty one are the same; nothing is another thing.
func TestEmptyLists(t *testing.T) {
	empty := func(x merge.Opt) merge.Opt {
		if !x.Is {
			return x
		}
		var fill func(t api.Tree) api.Tree
		fill = func(t api.Tree) api.Tree {
			l := api.Tree{}
			for _, y := range t {
				l = append(l, api.Edge{Name: y.Name, T: fill(y.T)})
			}
			return l
		}
		return merge.Opt{Is: true, T: fill(x.T)}
	}
	d := &die{15}
	for range 500 {
		s, o, a, b := d.thrown()
		want := call(s, o, a, b).String()
		for n := range 8 {
			l := []merge.Opt{o, a, b}
			for i := range l {
				if n>>i&1 == 1 {
					l[i] = empty(l[i])
				}
			}
			if got := call(s, l[0], l[1], l[2]).String(); got != want {
				t.Fatalf("P2: %s, not %s", got, want)
			}
		}
	}
}

// P4: what is nothing has no tree, and an answer without conflicts no list of them.
func TestNothing(t *testing.T) {
	for i, x := range []answer{call(free(), none(), none(), none()), call(free(), is("a"), none(), none()), call(free(), is("a"), is("a"), none()), call(free(), is("a"), none(), is("a"))} {
		for _, y := range []merge.Opt{x.o, x.a, x.b} {
			if y.Is || y.T != nil {
				t.Errorf("P4: %d: %v, %v", i, y.Is, y.T)
			}
		}
		if len(x.l) != 0 {
			t.Errorf("P4: %d: %v", i, x.l)
		}
	}
	got := call(free(), is("a"), none(), is("b"))
	if got.a.Is || got.a.T != nil || !got.o.Is || !got.b.Is || len(got.l) != 1 || len(got.l[0].Path) != 0 {
		t.Errorf("P1201, P4: %v", got)
	}
}

// oddOpts are no trees, but for the first ones, or nothing that has a tree; one tree has itself below it.
func oddOpts() []merge.Opt {
	loop := of("a", "b")
	loop[0].T, loop[1].T = loop, loop
	l := []merge.Opt{none(), is(), is("a b"), {T: of("a")}, {T: loop}}
	for _, t := range []api.Tree{{e("b"), e("a")}, {e("a"), e("a")}, {e("a", e("x")), e("a", e("y")), e("a")}, {e("b", e("z"), e("y"), e("z")), e("a")}, of(strings.Repeat("x", 81)), of(strings.Repeat("x", 70000)), chain(13, nil), chain(1000000, nil), chain(1000000, of("a")), row(401, "r"), row(70000, "r"), loop} {
		l = append(l, merge.Opt{Is: true, T: t})
	}
	return l
}

// oddSchemas are those that Check refuses, and some that few trees fit.
func oddSchemas() []api.Schema {
	many := make(api.Schema, 40)
	for i := range many {
		many[i] = def(rest(i + 1))
	}
	return []api.Schema{nil, {}, {{}}, {def(rest(-1))}, {def(rest(7))}, {def(rest(1 << 40))}, {def(rest(0), rest(0))}, {one(need(0, "a", "b"))}, {def(api.Field{N: api.Names{All: true, L: []string{"a"}}, Need: true})}, {some(rest(0))}, many, {def(only(0, strings.Repeat("x", 81)))}, free(), values()}
}

// P8: a tree of what is nothing does not count; nothing is answered, where one of the three is far from a tree. The document leaves both open.
func TestFarFromTrees(t *testing.T) {
	odd := merge.Opt{T: of("a")}
	if got := call(free(), odd, is("b"), is("c")); got.String() != settled(is("b", "c")).String() {
		t.Errorf("P8: %v", got)
	}
	if got := call(free(), is("c"), odd, is("b")); got.String() != call(free(), is("c"), none(), is("b")).String() {
		t.Errorf("P8: %v", got)
	}
	for _, x := range []merge.Opt{{Is: true, T: chain(13, nil)}, {Is: true, T: row(1201, "r")}} {
		for i, got := range []answer{call(free(), x, is("a"), is("b")), call(free(), is(), x, is("b")), call(free(), is(), is("a"), x)} {
			if got.String() != settled(none()).String() {
				t.Errorf("P8: %d: %v", i, got)
			}
		}
	}
}

// P1, P8: whatever is handed in, the call ends.
func TestWhatMayNotBe(t *testing.T) {
	opts := oddOpts()
	for _, s := range oddSchemas() {
		for _, o := range opts {
			for _, a := range opts {
				for _, b := range opts {
					merge.Merge(s, o, a, b)
				}
			}
		}
	}
}

// P2, P3, P8: what may not be stays as it is, too, and is not kept; the same call answers the same.
func TestWhatMayNotBeStays(t *testing.T) {
	odd := []merge.Opt{none(), is("a b", "c"), {T: of("a")}, {Is: true, T: api.Tree{e("b"), e("a")}}, {Is: true, T: api.Tree{e("a", e("x")), e("a", e("y"))}}, {Is: true, T: row(401, "r")}, {Is: true, T: chain(13, nil)}}
	for i, s := range oddSchemas() {
		for j, o := range odd {
			for k, a := range odd {
				for n, b := range odd {
					s2, o2, a2, b2 := roomySchema(s), o, a, b
					o2.T, a2.T, b2.T = roomyTree(o.T), roomyTree(a.T), roomyTree(b.T)
					was := written(s2, o2, a2, b2)
					x, y := call(s2, o2, a2, b2), call(s2, o2, a2, b2)
					told := x.String()
					if written(s2, o2, a2, b2) != was || y.String() != told {
						t.Fatalf("P2, P3: schema %d, %d, %d, %d", i, j, k, n)
					}
					trees, _ := listsOf(x)
					for _, z := range []merge.Opt{o2, a2, b2} {
						trees = append(trees, lists(z.T)...)
					}
					if tree.Size(x.a.T) < 9 && sharesTrees(trees) {
						t.Fatalf("P2: schema %d, %d, %d, %d: lists share memory: %s", i, j, k, n, told)
					}
				}
			}
		}
	}
}

// P3, P7: calls side by side do not touch one another.
func TestSideBySide(t *testing.T) {
	s, o, a, b := values(), is("k v", "l v"), is("k w", "l v", "m x"), is("k x", "n y")
	want := call(s, o, a, b).String()
	done := make(chan string)
	for range 8 {
		go func() { done <- call(s, o, a, b).String() }()
	}
	for range 8 {
		if got := <-done; got != want {
			t.Errorf("P3: %s, not %s", got, want)
		}
	}
}
