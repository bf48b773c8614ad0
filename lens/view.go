package lens

import (
	"cadence/api"
	"cadence/tree"
)

// part is a lens that Check allows, or one of those in it. No part changes a tree: what it answers may share memory with what it was handed.
type part api.Lens

// origin is the tree that a view was of; not known, if there was none.
type origin struct {
	known bool
	t     api.Tree
}

// view is both ways of an Op: forth, to what is seen, and back, to what it is seen of (Put where the origin is known, else Create).
type view struct {
	get func(l part, c api.Tree) (api.Tree, api.Errno)
	put func(l part, a api.Tree, c origin) (api.Tree, api.Errno)
}

func views() byOp[view] {
	return byOp[view]{
		api.LId:     {part.getId, part.putId},
		api.LConst:  {part.getConst, part.putConst},
		api.LRename: {part.getRename, part.putRename},
		api.LHoist:  {part.getHoist, part.putHoist},
		api.LPlunge: {part.getPlunge, part.putPlunge},
		api.LFilter: {part.getFilter, part.putFilter},
		api.LFork:   {part.getFork, part.putFork},
		api.LMap:    {part.getMap, part.putMap},
		api.LSeq:    {part.getSeq, part.putSeq},
	}
}

func (l part) get(c api.Tree) (api.Tree, api.Errno) {
	v, _ := views().of(l.Op)
	return sound(v.get(l, c))
}

func (l part) put(a api.Tree, c origin) (api.Tree, api.Errno) {
	v, _ := views().of(l.Op)
	return sound(v.put(l, a, c))
}

// sound lets a part's answer through, if it is a tree by itself.
func sound(t api.Tree, e api.Errno) (api.Tree, api.Errno) {
	if e == api.OK {
		e = tree.Check(t)
	}
	if e != api.OK {
		return nil, e
	}
	return t, api.OK
}
