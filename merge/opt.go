package merge

import (
	"slices"

	"cadence/api"
	"cadence/tree"
)

// opt is an Opt that has no edges, if it is nothing.
type opt Opt

func from(x Opt) opt {
	if !x.Is {
		return opt{}
	}
	return opt(x)
}

func (x opt) same(y opt) bool { return x.Is == y.Is && tree.Same(x.T, y.T) }

// fresh is x in new memory.
func (x opt) fresh() opt {
	t, _ := tree.Get(x.T, nil)
	return opt{x.Is, t}
}

func (x opt) below(name string) opt {
	t, is := tree.Get(x.T, []string{name})
	return opt{is, t}
}

// maxEdges lets through what comes of a merge of three trees, so that it may be merged again; it may be too great for a tree itself.
const maxEdges = 3 * api.MaxSize

func (x opt) bounded() bool {
	r := room(maxEdges)
	return r.holds(x.T, 1)
}

// room is how many edges there may be yet.
type room int

// holds calls itself: it looks at no edge deeper than a tree's may stand, so it ends even of one that has itself below it.
func (r *room) holds(t api.Tree, deep int) bool {
	*r -= room(len(t))
	if *r < 0 || len(t) > 0 && deep > api.MaxDepth {
		return false
	}
	return !slices.ContainsFunc(t, func(x api.Edge) bool { return !r.holds(x.T, deep+1) })
}
