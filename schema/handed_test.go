package schema_test

import (
	"fmt"
	"math"
	"strings"
	"testing"

	"cadence/api"
	"cadence/schema"
)

// roomy is s with spare room behind each list, in which something stands.
func roomy(s api.Schema) api.Schema {
	l := make(api.Schema, 0, len(s)+1)
	for _, x := range s {
		fields := make([]api.Field, 0, len(x.Fields)+1)
		for _, f := range x.Fields {
			names := append(append(make([]string, 0, len(f.N.L)+2), f.N.L...), "spare", "room")
			f.N.L = names[:len(f.N.L)]
			fields = append(fields, f)
		}
		x.Fields = append(fields, need(77, "spare"))[:len(fields)]
		l = append(l, x)
	}
	return append(l, def(rest(78)))[:len(s)]
}

// roomyTree is t with spare room behind each list, in which something stands.
func roomyTree(t api.Tree) api.Tree {
	l := make(api.Tree, 0, len(t)+1)
	for _, x := range t {
		l = append(l, e(x.Name))
		l[len(l)-1].T = roomyTree(x.T)
	}
	return append(l, e("spare", e("room")))[:len(t)]
}

// written is a schema with what stands in its lists' spare room; writtenTree a tree.
func written(s api.Schema) string {
	var b strings.Builder
	for _, x := range s[:cap(s)] {
		fmt.Fprint(&b, x.One, x.Some)
		for _, f := range x.Fields[:cap(x.Fields)] {
			fmt.Fprintf(&b, "%v%q%d%v", f.N.All, f.N.L[:cap(f.N.L)], f.To, f.Need)
		}
	}
	return b.String()
}

func writtenTree(t api.Tree) string {
	var b strings.Builder
	for _, x := range t[:cap(t)] {
		fmt.Fprintf(&b, "%q(%s)", x.Name, writtenTree(x.T))
	}
	return b.String()
}

// answers are what all calls answer of s and t.
func answers(s api.Schema, t api.Tree) string {
	var b strings.Builder
	fmt.Fprint(&b, schema.Check(s))
	for def := -1; def <= min(len(s), 20); def++ {
		fmt.Fprint(&b, schema.Level(s, def, t), schema.Fits(s, def, t))
		for _, x := range t[:min(len(t), 20)] {
			fmt.Fprint(&b, schema.To(s, def, x.Name))
		}
	}
	return b.String()
}

// P2, P3: what is handed in, its spare room too, stays as it is and does not count; the same calls answer the same.
func TestHandedIn(t *testing.T) {
	d := &die{8}
	for range 2000 {
		s, x := d.schema(), d.tree(d.of(4))
		s2, x2 := roomy(s), roomyTree(x)
		was, wasTree := written(s2), writtenTree(x2)
		want := answers(s, x)
		for range 2 {
			if got := answers(s2, x2); got != want {
				t.Fatalf("P2, P3: %s, not %s of %s", got, want, told(s, x))
			}
		}
		if written(s2) != was || writtenTree(x2) != wasTree {
			t.Fatalf("P2: changed: %s", told(s, x))
		}
	}
}

// P2: an empty list and none are the same.
func TestEmptyLists(t *testing.T) {
	for _, s := range []api.Schema{{{Fields: []api.Field{}}}, {{Fields: nil}}} {
		for _, x := range []api.Tree{nil, {}, {{Name: "a", T: nil}}, {{Name: "a", T: api.Tree{}}}} {
			if schema.Check(s) != api.OK || schema.Fits(s, 0, x) != (len(x) == 0) || schema.Level(s, 0, x) != (len(x) == 0) {
				t.Errorf("P2: %s", told(s, x))
			}
		}
	}
	for _, l := range [][]string{nil, {}} {
		s := api.Schema{def(some(0, l...), need(0, l...), api.Field{N: api.Names{All: true, L: l}})}
		if schema.Check(s) != api.OK || schema.To(s, 0, "a") != 0 || !schema.Fits(s, 0, nil) || !schema.Fits(s, 0, api.Tree{{Name: "a", T: api.Tree{}}}) {
			t.Errorf("P2: %s", told(s, nil))
		}
	}
}

// odd are schemas that may not be, one of each fault.
func odd() []api.Schema {
	l := []api.Schema{nil, make(api.Schema, 20), {def(many(9)...)}, {def(rest(0), rest(0))}, {def(some(0, "a"), need(1, "a", "b")), {}}, {def(needRest(0))}, {def(needRest(0, "a"))}, {def(some(0, numbered(3000)...))}, {def(need(0, numbered(3000)...))}, {def(some(0, long(70000)), rest(0))}}
	for _, to := range []int{-1, -2, 1, 2, math.MaxInt, math.MinInt} {
		l = append(l, api.Schema{def(rest(to))}, api.Schema{def(some(to, "a"), rest(0, "a"))}, api.Schema{def(rest(0)), def(need(to, "a"))})
	}
	return l
}

// P1, P2, P8: schemas that may not be, and lists that are no trees, too wide and too deep ones too, end, and are left as they are.
func TestWhatMayNotBe(t *testing.T) {
	wide := api.Tree{}
	for i := range 3000 {
		wide = append(wide, e(fmt.Sprint("name ", i)))
	}
	for i, s := range append(odd(), house(), api.Schema{def(rest(0))}) {
		for j, x := range []api.Tree{nil, value("a"), {e("b"), e("a", e("z"), e("y"))}, {e("a"), e("a", e("b"))}, {e(long(70000))}, wide} {
			s2, x2 := roomy(s), roomyTree(x)
			was, wasTree := written(s2), writtenTree(x2)
			answers(s2, x2)
			if written(s2) != was || writtenTree(x2) != wasTree {
				t.Errorf("P2: %d, %d: changed", i, j)
			}
		}
	}
}

// P1: a tree may be deeper than calls can be, and still ends.
func TestVeryDeep(t *testing.T) {
	var deep api.Tree
	for range 1 << 22 {
		deep = api.Tree{e("a", deep...)}
	}
	for _, s := range []api.Schema{{def(rest(0))}, {def(rest(1)), def(rest(0))}, {def(rest(1)), {}}, {def(rest(-1))}} {
		schema.Fits(s, 0, deep)
		schema.Level(s, 0, deep)
	}
}
