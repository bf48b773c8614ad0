package lens

import (
	"slices"

	"cadence/api"
	"cadence/names"
	"cadence/tree"
)

func (l part) kid(i int) part { return part(l.Kids[i]) }

func (l part) getFork(c api.Tree) (api.Tree, api.Errno) {
	in, out := names.Of(c, l.N)
	x, e := l.kid(0).get(in)
	if e != api.OK {
		return nil, e
	}
	y, e := l.kid(1).get(out)
	if e != api.OK {
		return nil, e
	}
	return both(l.M, x, y)
}

func (l part) putFork(a api.Tree, c origin) (api.Tree, api.Errno) {
	in, out := names.Of(a, l.M)
	inC, outC := names.Of(c.t, l.N)
	x, e := l.kid(0).put(in, origin{c.known, inC})
	if e != api.OK {
		return nil, e
	}
	y, e := l.kid(1).put(out, origin{c.known, outC})
	if e != api.OK {
		return nil, e
	}
	return both(l.N, x, y)
}

func (l part) getMap(c api.Tree) (api.Tree, api.Errno) {
	return each(c, func(x api.Edge) (api.Tree, api.Errno) { return l.kid(0).get(x.T) })
}

// putMap knows what was below an edge, if there was such a one: it may have had nothing below.
func (l part) putMap(a api.Tree, c origin) (api.Tree, api.Errno) {
	return each(a, func(x api.Edge) (api.Tree, api.Errno) {
		below, is := tree.Get(c.t, []string{x.Name})
		return l.kid(0).put(x.T, origin{is, below})
	})
}

func (l part) getSeq(c api.Tree) (api.Tree, api.Errno) {
	for i := range l.Kids {
		var e api.Errno
		if c, e = l.kid(i).get(c); e != api.OK {
			return nil, e
		}
	}
	return c, api.OK
}

func (l part) putSeq(a api.Tree, c origin) (api.Tree, api.Errno) {
	ahead, e := l.way(c)
	if e != api.OK {
		return nil, e
	}
	for i, x := range slices.Backward(ahead) {
		if a, e = l.kid(i).put(a, x); e != api.OK {
			return nil, e
		}
	}
	return a, api.OK
}

// way is what stands ahead of each kid on the way of Get; what is behind the last one nobody needs.
func (l part) way(c origin) ([]origin, api.Errno) {
	ahead := []origin{c}
	for i := range len(l.Kids) - 1 {
		if c.known {
			t, e := l.kid(i).get(c.t)
			if e != api.OK {
				return nil, e
			}
			c.t = t
		}
		ahead = append(ahead, c)
	}
	return ahead, api.OK
}
