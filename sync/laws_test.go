package sync_test

import (
	"slices"
	"testing"

	"cadence/api"
	"cadence/diff"
	"cadence/files"
	"cadence/lens"
	"cadence/schema"
	"cadence/sync"
	"cadence/tree"
	"cadence/vfs"
)

// three is what the archive says and what both sides are, as views.
type three struct {
	o    api.Tree
	isO  bool
	a, b api.Tree
}

func threeOf(t *testing.T, v *vfs.Vfs, c api.Config) three {
	t.Helper()
	x := three{isO: show(v, "o") != "none", a: seen(t, c, show(v, "a")), b: seen(t, c, show(v, "b"))}
	if x.isO {
		o, e := tree.Parse([]byte(show(v, "o")))
		if e != api.OK {
			t.Fatalf("P1702: the archive: %v", e)
		}
		x.o = o
	}
	return x
}

// at is what all three have at a path, as text.
func (x three) at(path []string) (o, a, b string) {
	text := func(t api.Tree, is bool) string {
		below, there := tree.Get(t, path)
		if !is || !there {
			return "none"
		}
		return tree.Text(below)
	}
	return text(x.o, x.isO), text(x.a, true), text(x.b, true)
}

// paths are all that the three have, the empty one too.
func (x three) paths() [][]string {
	l := [][]string{nil}
	var walk func(t api.Tree, path []string)
	walk = func(t api.Tree, path []string) {
		for _, x := range t {
			below := append(slices.Clone(path), x.Name)
			l = append(l, below)
			walk(x.T, below)
		}
	}
	walk(x.o, nil)
	walk(x.a, nil)
	walk(x.b, nil)
	return l
}

// step is a Sync that was OK, what was there ahead of it and what is there behind it.
type step struct {
	c       api.Config
	r       sync.Result
	was, is three
	v       *vfs.Vfs // behind it
	a, b    string   // the files ahead of it
}

// laws holds T2, T3, T5.
func (s step) laws(t *testing.T) {
	t.Helper()
	fail := func(law string) {
		t.Fatalf("%s: %q, %q, %s, by %v: %s: %s", law, s.a, s.b, tree.Text(s.was.o), s.c, answered(s.r), all(s.v))
	}
	own := s.c.S
	if len(own) == 0 {
		own = files.Schema(s.c.Form)
	}
	if !schema.Fits(own, 0, s.is.a) || !schema.Fits(own, 0, s.is.b) {
		fail("T2: what comes of it does not fit")
	}
	s.changes(fail)
	for i, x := range s.r.L {
		s.conflict(x, fail)
		if i > 0 && (slices.Compare(s.r.L[i-1].Path, x.Path) >= 0 || diff.Front(x.Path, s.r.L[i-1].Path)) {
			fail("P1201: conflicts out of order, or one below another")
		}
	}
	for _, p := range append(s.was.paths(), s.is.paths()...) {
		s.path(p, fail)
	}
}

// changes holds that a file is another one just where its view is.
func (s step) changes(fail func(string)) {
	a, b := show(s.v, "a"), show(s.v, "b")
	if s.r.A != (a != s.a) || s.r.B != (b != s.b) {
		fail("P1702: which files are others")
	}
	if s.r.A == tree.Same(s.was.a, s.is.a) || s.r.B == tree.Same(s.was.b, s.is.b) {
		fail("T5: a file is changed whose tree is not")
	}
	if len(s.r.L) == 0 && (!s.is.isO || !tree.Same(s.is.a, s.is.b) || !tree.Same(s.is.a, s.is.o)) {
		fail("T5: no conflicts, and not in step")
	}
}

// conflict holds that all three keep theirs, which differ.
func (s step) conflict(x api.Conflict, fail func(string)) {
	o, a, b := s.was.at(x.Path)
	o2, a2, b2 := s.is.at(x.Path)
	if o != o2 || a != a2 || b != b2 {
		fail("T2: at a conflict not all keep theirs")
	}
	if a == b || a == o || b == o {
		fail("T3: a conflict without need")
	}
	if (x.Kind == api.KGone) != (a == "none" || b == "none") || x.Kind != api.KGone && x.Kind != api.KShape {
		fail("P1201: a conflict of the wrong kind")
	}
}

// path holds that away from conflicts all three are the same, and have what one side changed.
func (s step) path(p []string, fail func(string)) {
	if slices.ContainsFunc(s.r.L, func(x api.Conflict) bool { return diff.Front(p, x.Path) }) {
		return
	}
	o, a, b := s.was.at(p)
	o2, a2, b2 := s.is.at(p)
	if !slices.ContainsFunc(s.r.L, func(x api.Conflict) bool { return diff.Front(x.Path, p) }) && (o2 != a2 || a2 != b2) {
		fail("T2: without a conflict all three are not the same")
	}
	if a == b && a2 != a || a == o && a2 != b || b == o && a2 != a {
		fail("T2: what one side changed the other one did not take")
	}
}

// P1703: T1 to T3, T5, T6, of files of all forms, by lenses of all kinds, edited again and again.
func TestLaws(t *testing.T) {
	d := &die{171}
	met := map[string]int{}
	for range 1000 {
		x := d.thrown()
		v := x.begun()
		for e := api.OK; e == api.OK; {
			ahead := copied(v)
			var r sync.Result
			if r, e = sync.Sync(v, x.c); e != api.OK {
				met[e.Error()]++
				wanted(t, "T6", e.Error(), all(v), all(ahead))
				break
			}
			s := step{x.c, r, threeOf(t, ahead, x.c), threeOf(t, v, x.c), v, show(ahead, "a"), show(ahead, "b")}
			s.laws(t)
			s.unseen(t)
			s.again(t)
			met[answered(sync.Result{A: r.A, B: r.B})]++
			met[map[bool]string{false: "in step", true: "conflicts"}[len(r.L) > 0]]++
			if d.of(4) == 0 {
				break
			}
			for _, name := range []string{"a", "b"} {
				if d.of(3) > 0 {
					t := loaded(x.c.Form, show(v, name))
					v.Write(name, []byte(d.written(x.c.Form, d.edited(x.c.Form, 0, t, 3))))
				}
			}
		}
	}
	for s, least := range map[string]int{"()": 300, "a ()": 300, "b ()": 300, "a b ()": 300, "in step": 500, "conflicts": 500, "fit": 20, "kind": 20} {
		if met[s] < least {
			t.Errorf("the test's own: %q: %d times", s, met[s])
		}
	}
}

// unseen holds that of each file no more is another one than its view, T1.
func (s step) unseen(t *testing.T) {
	t.Helper()
	l := s.c.L
	if len(s.c.S) == 0 {
		l = id()
	}
	for _, x := range []struct {
		was, is string
		view    api.Tree
	}{{s.a, show(s.v, "a"), s.is.a}, {s.b, show(s.v, "b"), s.is.b}} {
		want, e := lens.Put(l, x.view, loaded(s.c.Form, x.was))
		if e != api.OK || !tree.Same(want, loaded(s.c.Form, x.is)) {
			t.Fatalf("T1: %q was %q, by %v: %v", x.is, x.was, s.c, e)
		}
		if text, e := files.Put(s.c.Form, want, x.was); e != api.OK || text != x.is {
			t.Fatalf("T1: %q was %q, by %v: %v: %q", x.is, x.was, s.c, e, text)
		}
	}
}

// again holds that all stays, when it is done again.
func (s step) again(t *testing.T) {
	t.Helper()
	was := told(s.v)
	r, e := sync.Sync(s.v, s.c)
	if e != api.OK || answered(r) != "("+conflicts(s.r.L)+")" || told(s.v) != was {
		t.Fatalf("T3: again: %v, %s, not %s: %s, not %s", e, answered(r), answered(s.r), told(s.v), was)
	}
}

// P1703, P1202: with the files the other way about it is the other way about.
func TestOtherWayAbout(t *testing.T) {
	d := &die{172}
	for range 1000 {
		x := d.thrown()
		if x.o == "none" {
			x.o = "\x00\x00"
		}
		v, w := begun("a", x.a, "b", x.b, "o", x.o), begun("a", x.b, "b", x.a, "o", x.o)
		r, e := sync.Sync(v, x.c)
		s, f := sync.Sync(w, x.c)
		if (e == api.OK) != (f == api.OK) || answered(r) != answered(sync.Result{L: s.L, A: s.B, B: s.A}) {
			t.Fatalf("P1703: %v, %s, but %v, %s", e, answered(r), f, answered(s))
		}
		if show(v, "a") != show(w, "b") || show(v, "b") != show(w, "a") || show(v, "o") != show(w, "o") {
			t.Fatalf("P1703: %s, but %s", told(v), told(w))
		}
	}
}
