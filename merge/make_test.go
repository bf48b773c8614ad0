package merge_test

import (
	"fmt"
	"strings"

	"cadence/api"
	"cadence/merge"
	"cadence/schema"
	"cadence/tree"
)

// e is an edge with these below it.
func e(name string, below ...api.Edge) api.Edge { return api.Edge{Name: name, T: below} }

// of is a tree of paths, whose names have blanks between.
func of(paths ...string) api.Tree {
	var t api.Tree
	for _, p := range paths {
		path := strings.Fields(p)
		below, _ := tree.Get(t, path)
		t = tree.Put(t, path, below)
	}
	return t
}

func is(paths ...string) merge.Opt { return merge.Opt{Is: true, T: of(paths...)} }

func none() merge.Opt { return merge.Opt{} }

// chain is a tree of one edge above the other, so deep, with t below.
func chain(deep int, t api.Tree) api.Tree {
	for range deep {
		t = api.Tree{{Name: "d", T: t}}
	}
	return t
}

// row is n edges beside each other, whose names begin with s.
func row(n int, s string) api.Tree {
	var t api.Tree
	for i := range n {
		t = append(t, e(fmt.Sprintf("%s%06d", s, i)))
	}
	return t
}

// rest is a field of all names but some; only is one of some names; need is one that must be there.
func rest(to int, but ...string) api.Field {
	return api.Field{N: api.Names{All: true, L: but}, To: to}
}

func only(to int, l ...string) api.Field { return api.Field{N: api.Names{L: l}, To: to} }

func need(to int, l ...string) api.Field {
	return api.Field{N: api.Names{L: l}, To: to, Need: true}
}

func def(l ...api.Field) api.Def { return api.Def{Fields: l} }

func one(l ...api.Field) api.Def { return api.Def{Fields: l, One: true} }

func some(l ...api.Field) api.Def { return api.Def{Fields: l, Some: true} }

// free is a schema of all trees; values is one of values below names.
func free() api.Schema { return api.Schema{def(rest(0))} }

func values() api.Schema { return api.Schema{def(rest(1)), one(rest(2)), {}} }

// fits tells whether a side may be handed in.
func fits(s api.Schema, x merge.Opt) bool { return !x.Is || schema.Fits(s, 0, x.T) }

// answer is what Merge answers.
type answer struct {
	o, a, b merge.Opt
	l       []api.Conflict
}

func call(s api.Schema, o, a, b merge.Opt) answer {
	o, a, b, l := merge.Merge(s, o, a, b)
	return answer{o, a, b, l}
}

// told is a tree's text, or nothing's.
func told(x merge.Opt) string {
	if !x.Is && len(x.T) == 0 {
		return "none"
	}
	return fmt.Sprint(tree.Text(x.T), map[bool]string{false: ", which is not"}[x.Is])
}

// conflicts are written as a path's names, and the kind.
func conflicts(l []api.Conflict) string {
	var s []string
	for _, x := range l {
		kind := map[int]string{api.KGone: "gone", api.KShape: "shape"}[x.Kind]
		s = append(s, fmt.Sprintf("%s %q", kind, x.Path))
	}
	return strings.Join(s, ", ")
}

func (x answer) String() string {
	return told(x.o) + "; " + told(x.a) + "; " + told(x.b) + "; " + conflicts(x.l)
}

// swapped is the answer with a and b the other way about.
func (x answer) swapped() answer { return answer{x.o, x.b, x.a, x.l} }

// die throws.
type die struct{ n uint64 }

func (d *die) of(k int) int {
	d.n = d.n*6364136223846793005 + 1442695040888963407
	return int(d.n>>33) % k
}

// letters are the names that are thrown.
func letters() []string { return []string{"a", "b", "c", "d"} }

// schema is one that Check allows.
func (d *die) schema() api.Schema {
	for {
		s := make(api.Schema, 1+d.of(5))
		for i := range s {
			s[i] = api.Def{One: d.of(3) == 0, Some: d.of(3) == 0}
			for range d.of(3) {
				s[i].Fields = append(s[i].Fields, only(d.of(len(s)), letters()[d.of(4)]))
			}
			if d.of(3) == 0 && len(s[i].Fields) > 0 {
				s[i].Fields[0].Need = true
			}
			if d.of(4) > 0 {
				s[i].Fields = append(s[i].Fields, d.others(s[i].Fields, d.of(len(s))))
			}
		}
		if schema.Check(s) == api.OK {
			return s
		}
	}
}

// others is a field of all names that are in none of l.
func (d *die) others(l []api.Field, to int) api.Field {
	f := rest(to)
	for _, x := range l {
		f.N.L = append(f.N.L, x.N.L...)
	}
	return f
}

// tree is one of letters, of all kinds.
func (d *die) tree(deep int) api.Tree {
	var t api.Tree
	for _, name := range letters() {
		if d.of(2) == 0 {
			continue
		}
		x := e(name)
		if deep > 1 && d.of(3) > 0 {
			x.T = d.tree(deep - 1)
		}
		t = append(t, x)
	}
	return t
}

// fitting is a tree that fits a definition; false, if none was found.
func (d *die) fitting(s api.Schema, def, deep int) (api.Tree, bool) {
	var t api.Tree
	start := d.of(4)
	for i := range letters() {
		name := letters()[(start+i)%4]
		below, is := api.Tree(nil), false
		if to := schema.To(s, def, name); to >= 0 && deep > 0 && !(s[def].One && len(t) > 0) && d.of(5) > 1 {
			below, is = d.fitting(s, to, deep-1)
		}
		if is {
			t = tree.Put(t, []string{name}, below)
		}
	}
	return t, schema.Fits(s, def, t)
}

// edited is t, which fits, with some edges gone, others new, others changed, or another one, so that it fits still.
func (d *die) edited(s api.Schema, def int, t api.Tree, deep int) api.Tree {
	if other, is := d.fitting(s, def, deep); is && d.of(5) == 0 {
		return other
	}
	var l api.Tree
	for _, name := range letters() {
		to := schema.To(s, def, name)
		below, there := tree.Get(t, []string{name})
		n := d.of(8)
		switch {
		case there && n > 2:
			l = append(l, e(name, d.edited(s, to, below, deep-1)...))
		case there && n > 0:
			l = append(l, e(name, below...))
		case n < 2 && to >= 0 && deep > 0:
			if below, is := d.fitting(s, to, deep-1); is {
				l = append(l, e(name, below...))
			}
		}
	}
	if !schema.Level(s, def, l) {
		return t
	}
	return l
}

// thrown is what may be handed in: mostly three trees that fit, which have much in common.
func (d *die) thrown() (s api.Schema, o, a, b merge.Opt) {
	s, deep := d.schema(), 1+d.of(4)
	base, is := d.fitting(s, 0, deep)
	for !is || len(base) == 0 && d.of(20) > 0 {
		s, deep = d.schema(), 1+d.of(4)
		base, is = d.fitting(s, 0, deep)
	}
	side := func() merge.Opt {
		if d.of(20) == 0 {
			return none()
		}
		return merge.Opt{Is: true, T: d.edited(s, 0, base, deep)}
	}
	o, a, b = merge.Opt{Is: true, T: base}, side(), side()
	switch d.of(10) {
	case 0:
		o = none()
	case 1:
		o = merge.Opt{Is: true, T: d.tree(deep)}
	}
	return s, o, a, b
}
