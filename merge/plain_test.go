package merge_test

import (
	"maps"
	"slices"

	"cadence/api"
	"cadence/merge"
)

// What the chapter says, anew, of trees as maps, slowly: so the package is not its own witness.

// node is a tree; nil is nothing.
type node map[string]node

func toNode(x merge.Opt) node {
	if !x.Is {
		return nil
	}
	n := node{}
	for _, y := range x.T {
		n[y.Name] = toNode(merge.Opt{Is: true, T: y.T})
	}
	return n
}

func fromNode(n node) merge.Opt {
	var t api.Tree
	for _, name := range slices.Sorted(maps.Keys(n)) {
		t = append(t, api.Edge{Name: name, T: fromNode(n[name]).T})
	}
	return merge.Opt{Is: n != nil, T: t}
}

func equal(x, y node) bool {
	if (x == nil) != (y == nil) || len(x) != len(y) {
		return false
	}
	for name, below := range x {
		other, there := y[name]
		if !there || !equal(below, other) {
			return false
		}
	}
	return true
}

// plainTo is the number of the definition below a name.
func plainTo(d api.Def, name string) int {
	for _, f := range d.Fields {
		if slices.Contains(f.N.L, name) != f.N.All {
			return f.To
		}
	}
	return -1
}

func plainLevel(d api.Def, n node) bool {
	for name := range n {
		if plainTo(d, name) < 0 {
			return false
		}
	}
	for _, f := range d.Fields {
		for _, name := range f.N.L {
			if _, there := n[name]; f.Need && !there {
				return false
			}
		}
	}
	return (!d.One || len(n) == 1) && (!d.Some || len(n) > 0)
}

func plain(s api.Schema, o, a, b merge.Opt) answer {
	x, y, z, l := plainMerge(s, 0, nil, toNode(o), toNode(a), toNode(b))
	return answer{fromNode(x), fromNode(y), fromNode(z), l}
}

func plainMerge(s api.Schema, def int, path []string, o, a, b node) (node, node, node, []api.Conflict) {
	switch {
	case equal(a, b):
		return a, a, a, nil
	case equal(a, o):
		return b, b, b, nil
	case equal(b, o):
		return a, a, a, nil
	case a == nil || b == nil:
		return o, a, b, []api.Conflict{{Path: path, Kind: api.KGone}}
	}
	every := map[string]bool{}
	for _, n := range []node{o, a, b} {
		for name := range n {
			every[name] = true
		}
	}
	o2, a2, b2, l := node{}, node{}, node{}, []api.Conflict(nil)
	for _, name := range slices.Sorted(maps.Keys(every)) {
		x, y, z, more := plainMerge(s, plainTo(s[def], name), append(slices.Clone(path), name), o[name], a[name], b[name])
		for n, below := range map[*node]node{&o2: x, &a2: y, &b2: z} {
			if below != nil {
				(*n)[name] = below
			}
		}
		l = append(l, more...)
	}
	if !plainLevel(s[def], a2) || !plainLevel(s[def], b2) {
		return o, a, b, []api.Conflict{{Path: path, Kind: api.KShape}}
	}
	return o2, a2, b2, l
}
