package lens

import (
	"cadence/api"
	"cadence/names"
	"cadence/tree"
)

func (l part) getId(c api.Tree) (api.Tree, api.Errno) { return c, api.OK }

func (l part) putId(a api.Tree, _ origin) (api.Tree, api.Errno) { return a, api.OK }

func (l part) getConst(api.Tree) (api.Tree, api.Errno) { return l.T, api.OK }

func (l part) putConst(a api.Tree, c origin) (api.Tree, api.Errno) {
	switch {
	case !tree.Same(a, l.T):
		return nil, api.ErrKind
	case c.known:
		return c.t, api.OK
	}
	return l.U, api.OK
}

func (l part) getRename(c api.Tree) (api.Tree, api.Errno) { return rename(c, l.A, l.B) }

func (l part) putRename(a api.Tree, _ origin) (api.Tree, api.Errno) { return rename(a, l.B, l.A) }

func (l part) getHoist(c api.Tree) (api.Tree, api.Errno) { return only(c, l.A) }

func (l part) putHoist(a api.Tree, _ origin) (api.Tree, api.Errno) { return under(a, l.A) }

func (l part) getPlunge(c api.Tree) (api.Tree, api.Errno) { return under(c, l.A) }

func (l part) putPlunge(a api.Tree, _ origin) (api.Tree, api.Errno) { return only(a, l.A) }

func (l part) getFilter(c api.Tree) (api.Tree, api.Errno) {
	in, _ := names.Of(c, l.N)
	return in, api.OK
}

// putFilter has nothing to add where the origin is not known: its tree is empty then.
func (l part) putFilter(a api.Tree, c origin) (api.Tree, api.Errno) {
	_, unseen := names.Of(c.t, l.N)
	return both(l.N, a, unseen)
}
