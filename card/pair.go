package card

import (
	"cmp"
	"slices"
	"strings"

	"cadence/api"
	"cadence/tree"
)

// pair is what tells a thing from those beside it, and where a tree has it: a block's word and id, a property's name and value.
type pair struct{ upper, lower string }

// paired is a thing of a file that a tree has below a pair of names.
type paired interface {
	pair() pair
	below() api.Tree
}

func has[T paired](l []T, p pair) bool {
	return slices.ContainsFunc(l, func(x T) bool { return x.pair() == p })
}

// treeOf is the tree of things, of which no two have the same pair.
func treeOf[T paired](l []T) api.Tree {
	var t api.Tree
	for _, x := range slices.SortedFunc(slices.Values(l), order[T]) {
		p := x.pair()
		if len(t) == 0 || t[len(t)-1].Name != p.upper {
			t = append(t, api.Edge{Name: p.upper})
		}
		last := &t[len(t)-1]
		last.T = append(last.T, api.Edge{Name: p.lower, T: x.below()})
	}
	return t
}

func order[T paired](a, b T) int {
	p, q := a.pair(), b.pair()
	return cmp.Or(strings.Compare(p.upper, q.upper), strings.Compare(p.lower, q.lower))
}

// lacking are the texts of what t has and a file has not, in t's order.
func lacking[T paired](l []T, t api.Tree, texts func(pair, api.Tree) []string) []string {
	var fresh []string
	for _, upper := range t {
		for _, x := range upper.T {
			if p := (pair{upper.Name, x.Name}); !has(l, p) {
				fresh = append(fresh, texts(p, x.T)...)
			}
		}
	}
	return fresh
}

// get is what t has below a pair; false, if it has not that pair.
func get(t api.Tree, p pair) (api.Tree, bool) {
	return tree.Get(t, []string{p.upper, p.lower})
}
