package lens_test

import (
	"fmt"
	"slices"
	"strings"
	"testing"

	"cadence/api"
	"cadence/lens"
	"cadence/tree"
)

// roomyTree is t with spare room behind each list, in which something stands.
func roomyTree(t api.Tree) api.Tree {
	l := make(api.Tree, 0, len(t)+2)
	for _, x := range t {
		l = append(l, e(x.Name, roomyTree(x.T)...))
	}
	return append(l, e("spare", e("room")), e("a"))[:len(t)]
}

func roomyNames(n api.Names) api.Names {
	l := append(append(make([]string, 0, len(n.L)+2), n.L...), "spare", "a")
	return api.Names{All: n.All, L: l[:len(n.L)]}
}

func roomyLens(l api.Lens) api.Lens {
	kids := make([]api.Lens, 0, len(l.Kids)+1)
	for _, kid := range l.Kids {
		kids = append(kids, roomyLens(kid))
	}
	l.N, l.M, l.T, l.U = roomyNames(l.N), roomyNames(l.M), roomyTree(l.T), roomyTree(l.U)
	l.Kids = append(kids, plunge("spare"))[:len(l.Kids)]
	return l
}

// writtenTree is all that a tree's memory holds, its spare room too; writtenLens a lens's.
func writtenTree(t api.Tree) string {
	var s strings.Builder
	for i, x := range t[:cap(t)] {
		fmt.Fprintf(&s, "%t %q(%s)", i < len(t), x.Name, writtenTree(x.T))
	}
	return s.String()
}

func writtenLens(l api.Lens) string {
	var s strings.Builder
	fmt.Fprintf(&s, "%d %q %q %t %q %t %q %s %s", l.Op, l.A, l.B, l.N.All, l.N.L[:cap(l.N.L)], l.M.All, l.M.L[:cap(l.M.L)], writtenTree(l.T), writtenTree(l.U))
	for i, kid := range l.Kids[:cap(l.Kids)] {
		fmt.Fprintf(&s, "%t(%s)", i < len(l.Kids), writtenLens(kid))
	}
	return s.String()
}

// answers are what all calls answer of a lens and two trees.
func answers(l api.Lens, a, c api.Tree) []answer {
	return []answer{get(l, c), put(l, a, c), create(l, a), get(l, a), put(l, c, a), create(l, c)}
}

// spoilTree writes a tree over wholly, its spare room too; spoilLens a lens.
func spoilTree(t api.Tree) {
	for i, x := range t[:cap(t)] {
		spoilTree(x.T)
		t[:cap(t)][i] = e("spoilt", e("below"))
	}
}

func spoilLens(l api.Lens) {
	spoilTree(l.T)
	spoilTree(l.U)
	for _, n := range [][]string{l.N.L[:cap(l.N.L)], l.M.L[:cap(l.M.L)]} {
		for i := range n {
			n[i] = "spoilt"
		}
	}
	for i, kid := range l.Kids[:cap(l.Kids)] {
		spoilLens(kid)
		l.Kids[:cap(l.Kids)][i] = always(of("spoilt"), nil)
	}
}

// P2, P3: what is handed in stays as it is, its spare room too, which does not count, and is not kept; the same calls answer the same.
func TestHandedIn(t *testing.T) {
	d := &die{12}
	for range 1500 {
		l, c := d.lens(1+d.of(4)), d.tree()
		a := d.view(l, c)
		want := fmt.Sprint(answers(l, a, c), lens.Check(l))
		l2, a2, c2 := roomyLens(l), roomyTree(a), roomyTree(c)
		was := writtenLens(l2) + writtenTree(a2) + writtenTree(c2)
		for range 2 {
			if got := fmt.Sprint(answers(l2, a2, c2), lens.Check(l2)); got != want {
				t.Fatalf("P2, P3: %s, not %s: %+v", got, want, l)
			}
		}
		got := answers(l2, a2, c2)
		if writtenLens(l2)+writtenTree(a2)+writtenTree(c2) != was {
			t.Fatalf("P2: what is handed in is changed: %+v", l)
		}
		spoilLens(l2)
		spoilTree(a2)
		spoilTree(c2)
		if s := fmt.Sprint(got, lens.Check(l)); s != want {
			t.Fatalf("P2: what is handed in is kept: %s, not %s", s, want)
		}
		if s := fmt.Sprint(answers(l, a, c), lens.Check(l)); s != want {
			t.Fatalf("P2, P3: %s, not %s: %+v", s, want, l)
		}
	}
}

// lists are all lists of a tree, its own too.
func lists(t api.Tree) []api.Tree {
	l := []api.Tree{t}
	for _, x := range t {
		l = append(l, lists(x.T)...)
	}
	return l
}

// listsOf are all lists of trees of a lens.
func listsOf(l api.Lens) []api.Tree {
	all := append(lists(l.T), lists(l.U)...)
	for _, kid := range l.Kids {
		all = append(all, listsOf(kid)...)
	}
	return all
}

// shares tells whether two of the lists have memory in common: each is written over wholly, and then looked at again.
func shares(l []api.Tree) bool {
	for i, t := range l {
		for k := range t[:cap(t)] {
			t[:cap(t)][k] = e(fmt.Sprint("list ", i))
		}
	}
	for i, t := range l {
		if slices.ContainsFunc(t[:cap(t)], func(x api.Edge) bool { return x.Name != fmt.Sprint("list ", i) }) {
			return true
		}
	}
	return false
}

// P2: an answer is new memory, and no two of its lists share any.
func TestNewMemory(t *testing.T) {
	d := &die{13}
	for range 1500 {
		l, c := roomyLens(d.lens(1+d.of(4))), roomyTree(d.small(3))
		a := roomyTree(d.view(l, c))
		all := append(append(lists(a), lists(c)...), listsOf(l)...)
		before := fmt.Sprintf("%+v", l)
		for _, x := range append(answers(l, a, c), answers(l, a, c)...) {
			all = append(all, lists(x.t)...)
		}
		if shares(all) {
			t.Fatalf("P2: lists share memory: %s", before)
		}
	}
}

// P2: a list that is handed in twice, or that a lens tells twice, is answered as two.
func TestListTwice(t *testing.T) {
	below := func() api.Tree { return of("m", "n") }
	for i, x := range []func(y api.Tree) answer{
		func(y api.Tree) answer { return get(id(), api.Tree{e("a", y...), e("b", y...)}) },
		func(y api.Tree) answer { return put(filter(set("a")), api.Tree{e("a", y...)}, api.Tree{e("b", y...)}) },
		func(y api.Tree) answer { return get(each(always(y, nil)), of("a", "b")) },
		func(y api.Tree) answer { return create(each(always(nil, y)), of("a", "b")) },
		func(y api.Tree) answer { return get(fork(set(), set(), id(), each(always(y, y))), of("a", "b")) },
		func(y api.Tree) answer {
			return put(each(always(y, nil)), api.Tree{e("a", y...), e("b", y...)}, api.Tree{e("a", y...), e("b", y...)})
		},
		func(y api.Tree) answer { return get(seq(plunge("a"), always(y, nil), plunge("z")), y) },
	} {
		y := below()
		got := x(y)
		if got.e != api.OK || len(lists(got.t)) < 3 {
			t.Errorf("P2: %d: %v", i, got)
		}
		if shares(append(lists(got.t), lists(y)...)) {
			t.Errorf("P2: %d: lists share memory", i)
		}
	}
}

// P2: no list and an empty one are the same.
func TestEmptyLists(t *testing.T) {
	none := api.Lens{N: api.Names{L: []string{}}, M: api.Names{L: []string{}}, T: api.Tree{}, U: api.Tree{}, Kids: []api.Lens{}}
	for _, l := range append(samples(), always(nil, nil), filter(set()), filter(rest()), fork(set(), rest(), id(), id()), fork(set(), set(), id(), plunge("p"))) {
		bare := l
		if len(l.N.L) == 0 {
			l.N.L = none.N.L
		}
		if len(l.M.L) == 0 {
			l.M.L = none.M.L
		}
		if len(l.T) == 0 {
			l.T = none.T
		}
		if len(l.U) == 0 {
			l.U = none.U
		}
		if len(l.Kids) == 0 {
			l.Kids = none.Kids
		}
		if lens.Check(l) != api.OK || lens.Check(bare) != api.OK {
			t.Errorf("P2: %+v", l)
		}
		for _, x := range []api.Tree{nil, of("a"), abc()} {
			want := fmt.Sprint(answers(bare, nil, x))
			if got := fmt.Sprint(answers(l, api.Tree{}, x), answers(l, nil, roomyTree(x))); got != want+" "+want {
				t.Errorf("P2: %s, not %s twice", got, want)
			}
		}
	}
}

// odd are lenses that Check refuses; some have parts without kids, some have themselves below them, some are deeper than calls can be.
func odd() []api.Lens {
	l := []api.Lens{{}, {Op: -1}, {Op: 10}, {Op: 1 << 40}, each(), each(id(), id()), fork(set("a"), set("a")), fork(set("a"), set("a"), id()), fork(set("a"), set("a"), id(), id(), id()), seq(), seq(slices.Repeat([]api.Lens{id()}, 9)...), each(each()), seq(id(), seq()), fork(set(), set(), id(), fork(set(), set())), each(api.Lens{}), rename("a", "a"), hoist(long(81)), plunge(long(70000)), filter(set(numbered(3000)...)), filter(rest(long(81))), always(of("b", "a"), of("a", "a")), always(chain(1000000), nil), always(nil, row(70000, "r")), nested(13, id()), nested(1000000, id()), parts(41), parts(60)}
	for _, x := range []api.Lens{each(id()), seq(id()), seq(id(), id()), fork(set("a"), set("a"), id(), id())} {
		for i := range x.Kids {
			x.Kids[i] = x
		}
		l = append(l, x)
	}
	deep := id()
	for range 1000000 {
		deep = seq(deep)
	}
	return append(l, deep)
}

// oddTrees are no trees, but for the first ones; one has itself below it.
func oddTrees() []api.Tree {
	loop := of("a", "b")
	loop[0].T, loop[1].T = loop, loop
	return []api.Tree{nil, of("a"), abc(), of("b", "a"), of("a", "a"), {e("a", e("z"), e("y"), e("z"))}, of(long(70000)), chain(13), chain(1000000), row(401, "r"), row(70000, "r"), loop}
}

// P1, P8: whatever is handed in, all calls end.
func TestWhatMayNotBe(t *testing.T) {
	trees := oddTrees()
	for _, l := range append(odd(), samples()...) {
		refused := lens.Check(l) != api.OK
		for i, c := range trees {
			for j, a := range trees {
				for _, x := range []answer{get(l, c), put(l, a, c), create(l, a)} {
					if x.e != api.OK && len(x.t) != 0 {
						t.Errorf("P4: trees %d, %d: %v, and %d edges", j, i, x.e, len(x.t))
					}
				}
			}
		}
		if refused != (lens.Check(l) != api.OK) {
			t.Error("P3: Check")
		}
	}
}

// P2, P8: what may not be stays as it is, too.
func TestWhatMayNotBeStays(t *testing.T) {
	trees := []api.Tree{of("b", "a"), of("a", "a"), {e("a", e("z"), e("y"), e("z"))}, row(401, "r"), chain(13)}
	lenses := append(samples(), api.Lens{}, each(), fork(set("b", "a"), set("a"), id()), seq(), rename("a", "a"), always(of("b", "a"), of("a", "a")), filter(set(numbered(30)...)))
	for i, l := range lenses {
		for j, x := range trees {
			l2, x2 := roomyLens(l), roomyTree(x)
			was := writtenLens(l2) + writtenTree(x2)
			answers(l2, x2, x2)
			lens.Check(l2)
			if writtenLens(l2)+writtenTree(x2) != was {
				t.Errorf("P2: lens %d, tree %d: changed", i, j)
			}
		}
	}
}

// P7, P3: calls side by side do not touch one another.
func TestSideBySide(t *testing.T) {
	l, c, a := seq(filter(set("a", "b")), rename("a", "z"), plunge("p")), abc(), under(of("z"), "p")
	want := fmt.Sprint(answers(l, a, c))
	done := make(chan string)
	for range 8 {
		go func() { done <- fmt.Sprint(answers(l, a, c)) }()
	}
	for range 8 {
		if got := <-done; got != want {
			t.Errorf("P3: %s, not %s", got, want)
		}
	}
	if tree.Text(c) != abcText {
		t.Error("P2: c is changed")
	}
}
