package lens_test

import (
	"testing"

	"cadence/api"
	"cadence/lens"
	"cadence/tree"
)

// same tells whether a call answers what it must, and holds P4.
func same(got, want answer) bool {
	return got.e == want.e && tree.Same(got.t, want.t) && (got.e == api.OK || len(got.t) == 0)
}

// tally counts, of each call, how often it answered each error.
type tally map[string]map[api.Errno]int

func (l tally) count(call string, e api.Errno) {
	if l[call] == nil {
		l[call] = map[api.Errno]int{}
	}
	l[call][e]++
}

// laws holds P1103 of one lens and two trees.
func laws(t *testing.T, l api.Lens, a, c api.Tree) {
	t.Helper()
	if v, e := lens.Get(l, c); e == api.OK {
		if x := call(lens.Put(l, v, c)); !same(x, ok(c)) {
			t.Fatalf("P1103: Put of Get, unchanged, is %v, not %s: %+v", x, tree.Text(c), l)
		}
	}
	for _, x := range []answer{call(lens.Put(l, a, c)), call(lens.Create(l, a))} {
		if v := call(lens.Get(l, x.t)); x.e == api.OK && !same(v, ok(a)) {
			t.Fatalf("P1103: Get of what Put, Create answer is %v, not %s: %+v", v, tree.Text(a), l)
		}
	}
}

// P1102, P1103: lenses and trees of all kinds are as the chapter's words say, and keep its laws.
func TestThrown(t *testing.T) {
	d, told := &die{11}, tally{}
	for range 12000 {
		l, c := d.lens(1+d.of(5)), d.tree()
		a := d.view(l, c)
		for name, x := range map[string][2]answer{
			"Get":    {call(lens.Get(l, c)), plainGet(l, c)},
			"Put":    {call(lens.Put(l, a, c)), plainPut(l, a, c)},
			"Create": {call(lens.Create(l, a)), plainCreate(l, a)},
		} {
			if !same(x[0], x[1]) {
				t.Fatalf("P1102: %s is %v, not %v: a %s, c %s, %+v", name, x[0], x[1], tree.Text(a), tree.Text(c), l)
			}
			told.count(name, x[0].e)
		}
		laws(t, l, a, c)
	}
	for name, l := range told {
		for e, least := range map[api.Errno]int{api.OK: 5000, api.ErrKind: 1000, api.ErrDeep: 20, api.ErrMany: 20} {
			if l[e] < least {
				t.Errorf("P1102: %s answered %v %d times", name, e, l[e])
			}
		}
	}
}

// everyTree is all trees of at most two letters at the root, with nothing or one of them below each.
func everyTree() []api.Tree {
	belows := []api.Tree{nil, of("a"), of("b")}
	l := []api.Tree{nil}
	for _, x := range belows {
		l = append(l, under(x, "a"), under(x, "b"))
		for _, y := range belows {
			l = append(l, api.Tree{{Name: "a", T: x}, {Name: "b", T: y}})
		}
	}
	return l
}

// everyLens is lenses of one part, and of a few, about those letters.
func everyLens() []api.Lens {
	leaves := []api.Lens{id(), always(of("a"), of("b")), always(nil, of("a")), rename("a", "b"), rename("b", "a"), rename("a", "c"), hoist("a"), plunge("b"), filter(set("a")), filter(rest("a")), filter(set())}
	l := append([]api.Lens{}, leaves...)
	for _, x := range leaves {
		l = append(l, each(x), seq(x))
		for _, y := range leaves {
			l = append(l, seq(x, y), seq(x, each(y)), each(seq(x, y)), fork(set("a"), set("a"), x, y), fork(set("a"), rest("a"), x, y), fork(rest(), rest("b"), x, y))
		}
	}
	return l
}

// P1102, P1103: small lenses, of each small tree and each small view.
func TestEvery(t *testing.T) {
	for _, l := range everyLens() {
		for _, c := range everyTree() {
			if got, want := call(lens.Get(l, c)), plainGet(l, c); !same(got, want) {
				t.Fatalf("P1102: Get is %v, not %v: %s, %+v", got, want, tree.Text(c), l)
			}
			for _, a := range everyTree() {
				if got, want := call(lens.Put(l, a, c)), plainPut(l, a, c); !same(got, want) {
					t.Fatalf("P1102: Put is %v, not %v: a %s, c %s, %+v", got, want, tree.Text(a), tree.Text(c), l)
				}
				laws(t, l, a, c)
			}
			if got, want := call(lens.Create(l, c)), plainCreate(l, c); !same(got, want) {
				t.Fatalf("P1102: Create is %v, not %v: %s, %+v", got, want, tree.Text(c), l)
			}
		}
	}
}
