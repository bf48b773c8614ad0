package merge_test

import (
	"slices"
	"testing"

	"cadence/api"
	"cadence/merge"
	"cadence/schema"
	"cadence/tree"
)

// there is what an Opt has at a path.
func there(x merge.Opt, path []string) merge.Opt {
	t, is := tree.Get(x.T, path)
	return merge.Opt{Is: x.Is && is, T: t}
}

// paths are all paths of the trees, the empty one too.
func paths(l ...merge.Opt) [][]string {
	all := [][]string{nil}
	var walk func(t api.Tree, path []string)
	walk = func(t api.Tree, path []string) {
		for _, x := range t {
			below := append(slices.Clone(path), x.Name)
			all = append(all, below)
			walk(x.T, below)
		}
	}
	for _, x := range l {
		walk(x.T, nil)
	}
	slices.SortFunc(all, slices.Compare[[]string])
	return slices.CompactFunc(all, slices.Equal[[]string])
}

// ahead tells whether p begins with all of q.
func ahead(p, q []string) bool { return len(p) >= len(q) && slices.Equal(p[:len(q)], q) }

// laws holds P1202's theorems, T2 and T3, of a merge.
func laws(t *testing.T, s api.Schema, o, a, b merge.Opt) answer {
	t.Helper()
	got := call(s, o, a, b)
	fail := func(law string) { t.Fatalf("%s: %s, %s, %s, by %v: %v", law, told(o), told(a), told(b), s, got) }
	if !fits(s, got.a) || !fits(s, got.b) {
		fail("T2: what comes of it does not fit")
	}
	if told(a) == told(b) && len(got.l) > 0 || (told(a) == told(o) || told(b) == told(o)) && len(got.l) > 0 {
		fail("T3: a conflict without need")
	}
	for i, x := range got.l {
		conflictLaws(x, o, a, b, got, fail)
		if i > 0 && (slices.Compare(got.l[i-1].Path, x.Path) >= 0 || ahead(x.Path, got.l[i-1].Path)) {
			fail("P1201: conflicts out of order, or one below another")
		}
	}
	for _, p := range paths(o, a, b, got.o, got.a, got.b) {
		pathLaws(p, o, a, b, got, fail)
	}
	if again := call(s, got.o, got.a, got.b); again.String() != got.String() {
		fail("T3: merged again: " + again.String())
	}
	if other := call(s, o, b, a); other.swapped().String() != got.String() {
		fail("P1202: the other way about: " + other.String())
	}
	return got
}

// conflictLaws holds that all three keep theirs, which differ, and that the kind tells what they are.
func conflictLaws(x api.Conflict, o, a, b merge.Opt, got answer, fail func(string)) {
	p, q, r := there(o, x.Path), there(a, x.Path), there(b, x.Path)
	if told(there(got.o, x.Path)) != told(p) || told(there(got.a, x.Path)) != told(q) || told(there(got.b, x.Path)) != told(r) {
		fail("T2: at a conflict not all keep theirs")
	}
	if told(q) == told(r) || told(q) == told(p) || told(r) == told(p) {
		fail("T3: a conflict where one side is unchanged, or both are equal")
	}
	if want := map[bool]int{true: api.KShape, false: api.KGone}[q.Is && r.Is]; x.Kind != want {
		fail("P1201: a conflict of the wrong kind")
	}
}

// pathLaws holds that a place away from conflicts is one of all three, and what one side changed it to, if one alone did.
func pathLaws(path []string, o, a, b merge.Opt, got answer, fail func(string)) {
	above := func(x api.Conflict) bool { return ahead(path, x.Path) }
	below := func(x api.Conflict) bool { return ahead(x.Path, path) }
	if slices.ContainsFunc(got.l, above) {
		return
	}
	p, q, r := told(there(o, path)), told(there(a, path)), told(there(b, path))
	x, y, z := told(there(got.o, path)), told(there(got.a, path)), told(there(got.b, path))
	within := slices.ContainsFunc(got.l, below)
	if !within && (x != y || y != z) {
		fail("T2: without a conflict all three are not the same")
	}
	if within && (q == r || p == q || p == r) {
		fail("T3: a conflict without need")
	}
	if q == r && y != q || p == q && y != r || p == r && y != q {
		fail("T2: what one side changed the other one did not take")
	}
	if p == "none" && q == "none" && r == "none" && x+y+z != "nonenonenone" {
		fail("T2: something that nobody had")
	}
}

// P1201, P1202: schemas and trees of all kinds are merged as the chapter's words say, and by its theorems.
func TestThrown(t *testing.T) {
	d := &die{12}
	met := map[string]int{}
	for range 10000 {
		s, o, a, b := d.thrown()
		got := laws(t, s, o, a, b)
		if want := plain(s, o, a, b); got.String() != want.String() {
			t.Fatalf("P1201: %v, not %v: %v", got, want, s)
		}
		for _, x := range got.l {
			met[map[int]string{api.KGone: "gone", api.KShape: "shape"}[x.Kind]]++
			if len(x.Path) > 1 {
				met["deep"]++
			}
		}
		switch {
		case len(got.l) > 1:
			met["several"]++
		case len(got.l) == 0 && got.a.Is && !tree.Same(got.a.T, a.T) && !tree.Same(got.a.T, b.T):
			met["both"]++
		}
	}
	for kind, least := range map[string]int{"gone": 1000, "shape": 200, "deep": 500, "several": 500, "both": 1000} {
		if met[kind] < least {
			t.Errorf("P1201: %s: met %d times", kind, met[kind])
		}
	}
}

// everyOpt is nothing, and all trees of two names at the root and below these.
func everyOpt() []merge.Opt {
	belows := []api.Tree{nil, of("a"), of("b"), of("a", "b")}
	l := []merge.Opt{none(), is()}
	for _, x := range belows {
		l = append(l, merge.Opt{Is: true, T: api.Tree{e("a", x...)}}, merge.Opt{Is: true, T: api.Tree{e("b", x...)}})
		for _, y := range belows {
			l = append(l, merge.Opt{Is: true, T: api.Tree{e("a", x...), e("b", y...)}})
		}
	}
	return l
}

// P1201: each three of them, by schemas of all kinds.
func TestEvery(t *testing.T) {
	for i, s := range []api.Schema{
		free(), values(), {some(rest(0)), {}}, {some(rest(1)), def(rest(2)), {}}, {one(rest(1)), def(rest(2)), {}}, {def(rest(1)), some(rest(2)), {}}, {one(rest(1)), one(rest(2)), {}}, {some(rest(1)), one(rest(2)), {}},
		{def(need(1, "a"), rest(2, "a")), def(rest(3)), one(rest(3)), {}}, {def(need(1, "a", "b")), def(rest(2)), {}}, {def(rest(1)), def(need(2, "a"), only(2, "b")), {}}, {def(only(1, "a"), only(2, "b")), one(rest(3)), some(rest(3)), {}},
	} {
		if e := schema.Check(s); e != api.OK {
			t.Fatalf("schema %d: %v", i, e)
		}
		all := everyOpt()
		sides := slices.DeleteFunc(everyOpt(), func(x merge.Opt) bool { return !fits(s, x) })
		for _, o := range all {
			for _, a := range sides {
				for _, b := range sides {
					if got, want := call(s, o, a, b), plain(s, o, a, b); got.String() != want.String() {
						t.Fatalf("P1201: %v, not %v: %s, %s, %s, %v", got, want, told(o), told(a), told(b), s)
					}
				}
			}
		}
	}
}
