package lens_test

import (
	"fmt"
	"slices"
	"strings"

	"cadence/api"
)

// e is an edge with these below it.
func e(name string, below ...api.Edge) api.Edge { return api.Edge{Name: name, T: below} }

// of is a tree of these names, in their order, with nothing below.
func of(l ...string) api.Tree {
	var t api.Tree
	for _, name := range l {
		t = append(t, e(name))
	}
	return t
}

// under is t below these names, the first one on top.
func under(t api.Tree, l ...string) api.Tree {
	for _, name := range slices.Backward(l) {
		t = api.Tree{{Name: name, T: t}}
	}
	return t
}

// chain is a tree of one edge above the other, so deep.
func chain(deep int) api.Tree { return under(nil, slices.Repeat([]string{"d"}, deep)...) }

// row is n edges beside each other, whose names begin with s.
func row(n int, s string) api.Tree {
	var t api.Tree
	for i := range n {
		t = append(t, e(fmt.Sprintf("%s%03d", s, i)))
	}
	return t
}

// set is these names, rest is all but them.
func set(l ...string) api.Names { return api.Names{L: l} }

func rest(l ...string) api.Names { return api.Names{All: true, L: l} }

// numbered are n names, each another one.
func numbered(n int) []string {
	var l []string
	for i := range n {
		l = append(l, fmt.Sprint("name ", i))
	}
	return l
}

// long is a name of n bytes.
func long(n int) string { return strings.Repeat("x", n) }

// These are a lens of each Op.

func id() api.Lens { return api.Lens{Op: api.LId} }

func always(t, u api.Tree) api.Lens { return api.Lens{Op: api.LConst, T: t, U: u} }

func rename(a, b string) api.Lens { return api.Lens{Op: api.LRename, A: a, B: b} }

func hoist(a string) api.Lens { return api.Lens{Op: api.LHoist, A: a} }

func plunge(a string) api.Lens { return api.Lens{Op: api.LPlunge, A: a} }

func filter(n api.Names) api.Lens { return api.Lens{Op: api.LFilter, N: n} }

func fork(n, m api.Names, kids ...api.Lens) api.Lens {
	return api.Lens{Op: api.LFork, N: n, M: m, Kids: kids}
}

func each(kids ...api.Lens) api.Lens { return api.Lens{Op: api.LMap, Kids: kids} }

func seq(kids ...api.Lens) api.Lens { return api.Lens{Op: api.LSeq, Kids: kids} }

// nested is a lens so deep, whose deepest part is inner.
func nested(deep int, inner api.Lens) api.Lens {
	for range deep - 1 {
		inner = each(inner)
	}
	return inner
}

// parts is a lens of n parts, n at least 1, none more than three deep.
func parts(n int) api.Lens {
	if n == 1 {
		return id()
	}
	whole, left := seq(), n-1
	for left > 0 {
		k := min(left, 9)
		switch {
		case k == 1:
			whole.Kids = append(whole.Kids, id())
		default:
			whole.Kids = append(whole.Kids, seq(slices.Repeat([]api.Lens{id()}, k-1)...))
		}
		left -= k
	}
	return whole
}

// samples are a lens of each Op, one that Check allows.
func samples() []api.Lens {
	return []api.Lens{id(), always(of("a"), of("b")), rename("a", "b"), hoist("a"), plunge("a"), filter(set("a")), fork(set("a"), set("b"), id(), id()), each(id()), seq(id(), id())}
}

// count is how many parts a lens has.
func count(l api.Lens) int {
	n := 1
	for _, kid := range l.Kids {
		n += count(kid)
	}
	return n
}
