package diff

import (
	"slices"

	"cadence/api"
	"cadence/tree"
)

// differ goes down only where each of the trees has an edge: below one that another lacks there is nothing to hold it against.
func differ(l ...api.Tree) [][]string {
	var paths [][]string
	for _, name := range tree.Names(l...) {
		below := told(l, func(t api.Tree) (api.Tree, bool) { return edge(t, name) })
		if len(below) < len(l) {
			paths = append(paths, []string{name})
		} else {
			paths = append(paths, ahead(name, differ(below...))...)
		}
	}
	return paths
}

// told is what is told of those of l of which something is.
func told[T, U any](l []T, tell func(T) (U, bool)) []U {
	var all []U
	for _, x := range l {
		if y, is := tell(x); is {
			all = append(all, y)
		}
	}
	return all
}

// edge is what is below t's edge of that name, if there is one. It is t's own memory, which is looked at only; tree.Get would copy all that is below at each step down.
func edge(t api.Tree, name string) (api.Tree, bool) {
	i := slices.IndexFunc(t, func(x api.Edge) bool { return x.Name == name })
	if i < 0 {
		return nil, false
	}
	return t[i].T, true
}

// ahead puts the name ahead of each path of l, which nobody else has.
func ahead(name string, l [][]string) [][]string {
	for i, path := range l {
		l[i] = slices.Insert(path, 0, name)
	}
	return l
}

// maxEdges lets through what comes of a merge of three trees, which may be too great for a tree itself.
const maxEdges = 3 * api.MaxSize

// bounded tells whether each of the trees has no more than maxEdges.
func bounded(l ...api.Tree) bool {
	for _, t := range l {
		if r := room(maxEdges); !r.holds(t) {
			return false
		}
	}
	return true
}

// room is how many edges there may be yet.
type room int

// holds calls itself no deeper than there is room, so it ends even of a tree that has itself below it.
func (r *room) holds(t api.Tree) bool {
	*r -= room(len(t))
	return *r >= 0 && !slices.ContainsFunc(t, func(x api.Edge) bool { return !r.holds(x.T) })
}
