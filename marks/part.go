package marks

import (
	"slices"
	"strings"

	"cadence/api"
	"cadence/tree"
)

// part is a thing of a content that a tree has below a name: a link below its place, a folder below its name.
type part interface {
	key() string
	below() api.Tree
	cut() api.Edit
	edits(below api.Tree, end string) []api.Edit // they make it what t has below its name
}

func has[T part](l []T, name string) bool {
	return slices.ContainsFunc(l, func(x T) bool { return x.key() == name })
}

// treeOf is the tree of parts, of which no two have the same name.
func treeOf[T part](l []T) api.Tree {
	var t api.Tree
	for _, x := range l {
		t = append(t, api.Edge{Name: x.key(), T: x.below()})
	}
	slices.SortFunc(t, func(a, b api.Edge) int { return strings.Compare(a.Name, b.Name) })
	return t
}

// editsOf make of parts those that t has: the others go.
func editsOf[T part](l []T, t api.Tree, end string) []api.Edit {
	var made []api.Edit
	for _, x := range l {
		if below, is := tree.Get(t, []string{x.key()}); is {
			made = append(made, x.edits(below, end)...)
		} else {
			made = append(made, x.cut())
		}
	}
	return made
}

// lacking are the texts of what t has and parts have not, in t's order.
func lacking[T part](l []T, t api.Tree, text func(x api.Edge, end string) string, end string) string {
	var b strings.Builder
	for _, x := range t {
		if !has(l, x.Name) {
			b.WriteString(text(x, end))
		}
	}
	return b.String()
}
