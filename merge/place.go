package merge

import (
	"slices"

	"cadence/api"
	"cadence/schema"
	"cadence/tree"
)

// place is a path, its definition, and what all three have there.
type place struct {
	s    api.Schema
	path []string
	def  int
	all  three[opt]
}

// outcome is what comes of a place: what all three have there then, and its conflicts.
type outcome struct {
	all three[opt]
	l   []api.Conflict
}

// merged asks the document's rules in their order; the first one that holds tells. It calls itself, no deeper than the trees are.
func (p place) merged() outcome {
	for _, rule := range []func() (outcome, bool){p.equal, p.aUnchanged, p.bUnchanged, p.gone} {
		if x, holds := rule(); holds {
			return x
		}
	}
	return p.byName()
}

func (p place) equal() (outcome, bool) { return taken(p.all.a, p.all.a.same(p.all.b)) }

func (p place) aUnchanged() (outcome, bool) { return taken(p.all.b, p.all.a.same(p.all.o)) }

func (p place) bUnchanged() (outcome, bool) { return taken(p.all.a, p.all.b.same(p.all.o)) }

func (p place) gone() (outcome, bool) {
	if p.all.a.Is && p.all.b.Is {
		return outcome{}, false
	}
	return p.kept(api.KGone), true
}

// byName is what comes of the edges, name by name, if it may stand there.
func (p place) byName() outcome {
	var edges three[api.Tree]
	var l []api.Conflict
	for _, name := range tree.Names(p.all.o.T, p.all.a.T, p.all.b.T) {
		x := p.below(name).merged()
		edges = joined(edges, x.all, func(t api.Tree, y opt) api.Tree { return with(t, name, y) })
		l = append(l, x.l...)
	}
	if !p.fits(edges.a) || !p.fits(edges.b) {
		return p.kept(api.KShape)
	}
	return outcome{each(edges, whole), l}
}

func (p place) below(name string) place {
	return place{
		s:    p.s,
		path: slices.Concat(p.path, []string{name}),
		def:  schema.To(p.s, p.def, name),
		all:  each(p.all, func(x opt) opt { return x.below(name) }),
	}
}

func (p place) fits(t api.Tree) bool { return schema.Level(p.s, p.def, t) }

// kept lets all stay, with a conflict. There is none but it: what comes of the edges does not count then.
func (p place) kept(kind int) outcome {
	return outcome{each(p.all, opt.fresh), []api.Conflict{{Path: p.path, Kind: kind}}}
}

// taken has all three be as x, if holds.
func taken(x opt, holds bool) (outcome, bool) {
	if !holds {
		return outcome{}, false
	}
	return outcome{all: alike(x.fresh)}, true
}

// with is t and one more edge, if it is one.
func with(t api.Tree, name string, x opt) api.Tree {
	if !x.Is {
		return t
	}
	return append(t, api.Edge{Name: name, T: x.T})
}

func whole(t api.Tree) opt { return opt{true, t} }
