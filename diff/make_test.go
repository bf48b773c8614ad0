package diff_test

import (
	"fmt"
	"slices"
	"strings"

	"cadence/api"
	"cadence/tree"
)

// e is an edge with these below it.
func e(name string, below ...api.Edge) api.Edge { return api.Edge{Name: name, T: below} }

// of is a tree of paths, whose names have blanks between.
func of(paths ...string) api.Tree {
	var t api.Tree
	for _, p := range paths {
		path := strings.Fields(p)
		below, _ := tree.Get(t, path)
		t = tree.Put(t, path, below)
	}
	return t
}

// chain is a tree of one edge above the other, so deep, with t below.
func chain(deep int, t api.Tree) api.Tree {
	for range deep {
		t = api.Tree{{Name: "d", T: t}}
	}
	return t
}

// row is n edges beside each other, whose names begin with s.
func row(n int, s string) api.Tree {
	var t api.Tree
	for i := range n {
		t = append(t, e(fmt.Sprintf("%s%06d", s, i)))
	}
	return t
}

// told is paths, written so that two that are told alike are the same.
func told(l [][]string) string { return fmt.Sprintf("%q", l) }

// every is all paths of a tree's edges, each ahead of those below it.
func every(t api.Tree) [][]string {
	var l [][]string
	for _, x := range t {
		l = append(l, []string{x.Name})
		for _, p := range every(x.T) {
			l = append(l, append([]string{x.Name}, p...))
		}
	}
	return l
}

// plain is what the chapter says of Paths, anew: no tree is walked beside the other one, so the package is not its own witness. An edge that one tree has, and the other one has not, is told, if both have the one that it is below.
func plain(a, b api.Tree) [][]string {
	holder := map[string]int{}
	for i, t := range []api.Tree{a, b} {
		for _, p := range every(t) {
			holder[fmt.Sprintf("%q", p)] |= 1 << i
		}
	}
	holder["[]"] = 3
	var l [][]string
	for _, p := range append(every(a), every(b)...) {
		if holder[fmt.Sprintf("%q", p)] != 3 && holder[fmt.Sprintf("%q", p[:len(p)-1])] == 3 {
			l = append(l, p)
		}
	}
	slices.SortFunc(l, slices.Compare[[]string])
	return l
}

// plainFront finds what stands behind q, if p begins with it.
func plainFront(p, q []string) bool {
	for _, name := range q {
		if len(p) == 0 || p[0] != name {
			return false
		}
		p = p[1:]
	}
	return true
}

// die throws.
type die struct{ n uint64 }

func (d *die) of(k int) int {
	d.n = d.n*6364136223846793005 + 1442695040888963407
	return int(d.n>>33) % k
}

// names are those that are thrown, in order: some begin with others, one is empty, some are not text.
func names() []string { return []string{"", "\n", "a", "a b", "aa", "b", "é", "\xff"} }

// tree is one of names, of all kinds.
func (d *die) tree(deep int) api.Tree {
	var t api.Tree
	for _, name := range names() {
		if d.of(3) == 0 {
			x := e(name)
			if deep > 1 {
				x.T = d.tree(deep - 1)
			}
			t = append(t, x)
		}
	}
	return t
}

// edited is t with some edges gone, others new, others changed below.
func (d *die) edited(t api.Tree, deep int) api.Tree {
	var l api.Tree
	for _, name := range names() {
		below, is := tree.Get(t, []string{name})
		n := d.of(10)
		switch {
		case is && n > 3:
			l = append(l, e(name, below...))
		case is && n > 0 || !is && n == 0 && deep > 0:
			l = append(l, e(name, d.edited(below, deep-1)...))
		}
	}
	return l
}

// thrown is two trees that Check allows; mostly they have much in common.
func (d *die) thrown() (a, b api.Tree) {
	for {
		deep := 1 + d.of(4)
		a, b = d.tree(deep), d.tree(deep)
		if d.of(5) > 0 {
			b = d.edited(a, deep)
		}
		if tree.Check(a) == api.OK && tree.Check(b) == api.OK {
			return a, b
		}
	}
}

// small are all trees of two names at the root and below these, and some below those.
func small() []api.Tree {
	belows := []api.Tree{nil, of("a"), of("b"), of("a", "b"), of("a b"), of("a a", "b")}
	l := []api.Tree{nil}
	for _, x := range belows {
		l = append(l, api.Tree{e("a", x...)}, api.Tree{e("b", x...)})
		for _, y := range belows {
			l = append(l, api.Tree{e("a", x...), e("b", y...)})
		}
	}
	return l
}
