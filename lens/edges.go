package lens

import (
	"slices"
	"strings"

	"cadence/api"
	"cadence/names"
	"cadence/tree"
)

// rename gives the edge from the name to, which no other one may have.
func rename(t api.Tree, from, to string) (api.Tree, api.Errno) {
	if _, is := tree.Get(t, []string{to}); is {
		return nil, api.ErrKind
	}
	below, is := tree.Get(t, []string{from})
	if !is {
		return t, api.OK
	}
	return tree.Put(tree.Drop(t, []string{from}), []string{to}, below), api.OK
}

// only is what is below t's edge of that name, which must be its one.
func only(t api.Tree, name string) (api.Tree, api.Errno) {
	if len(t) != 1 || t[0].Name != name {
		return nil, api.ErrKind
	}
	return t[0].T, api.OK
}

func under(t api.Tree, name string) (api.Tree, api.Errno) {
	return api.Tree{{Name: name, T: t}}, api.OK
}

// both is the edges of in and of out, if those of in have names of n, and those of out have none.
func both(n api.Names, in, out api.Tree) (api.Tree, api.Errno) {
	within := func(x api.Edge) bool { return names.Has(n, x.Name) }
	beyond := func(x api.Edge) bool { return !within(x) }
	if slices.ContainsFunc(in, beyond) || slices.ContainsFunc(out, within) {
		return nil, api.ErrKind
	}
	t := slices.Concat(in, out)
	slices.SortFunc(t, func(x, y api.Edge) int { return strings.Compare(x.Name, y.Name) })
	return t, api.OK
}

// each is t with what is made of each edge below it.
func each(t api.Tree, made func(api.Edge) (api.Tree, api.Errno)) (api.Tree, api.Errno) {
	whole := make(api.Tree, 0, len(t))
	for _, x := range t {
		below, e := made(x)
		if e != api.OK {
			return nil, e
		}
		whole = append(whole, api.Edge{Name: x.Name, T: below})
	}
	return whole, api.OK
}
