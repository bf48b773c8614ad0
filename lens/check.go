package lens

import (
	"slices"

	"cadence/api"
	"cadence/tree"
)

const (
	maxDeep  = 12 // how deep a part stands at most; the lens itself: 1
	maxSeq   = 8  // how many kids a LSeq has at most
	maxNames = 20 // how many names a set's list has at most
)

// judge is told parts one by one, each ahead of its kids, in order.
type judge struct{ told int }

// part calls itself: it lets no part stand deeper than maxDeep.
func (j *judge) part(l part, deep int) api.Errno {
	j.told++
	switch {
	case j.told > api.MaxLens:
		return api.ErrMany
	case deep > maxDeep:
		return api.ErrDeep
	}
	if e := l.fault(); e != api.OK {
		return e
	}
	return first(l.Kids, func(kid api.Lens) api.Errno { return j.part(part(kid), deep+1) })
}

// rule is what parts of an Op must be like: how many kids they have, and what else is asked of them alone.
type rule struct {
	least, most int
	own         func(part) api.Errno
}

func rules() byOp[rule] {
	return byOp[rule]{
		api.LId:     {0, 0, part.noFault},
		api.LConst:  {0, 0, part.treesFault},
		api.LRename: {0, 0, part.renameFault},
		api.LHoist:  {0, 0, part.noFault},
		api.LPlunge: {0, 0, part.noFault},
		api.LFilter: {0, 0, part.filterFault},
		api.LFork:   {2, 2, part.forkFault},
		api.LMap:    {1, 1, part.noFault},
		api.LSeq:    {1, maxSeq, part.noFault},
	}
}

// fault tells what is wrong with a part, whatever its kids are.
func (l part) fault() api.Errno {
	r, is := rules().of(l.Op)
	switch {
	case !is:
		return api.ErrKind
	case len(l.Kids) < r.least || len(l.Kids) > r.most:
		return api.ErrArg
	case long(l.A) || long(l.B):
		return api.ErrLong
	}
	return r.own(l)
}

func (l part) noFault() api.Errno { return api.OK }

func (l part) treesFault() api.Errno { return first([]api.Tree{l.T, l.U}, tree.Check) }

func (l part) renameFault() api.Errno {
	if l.A == l.B {
		return api.ErrArg
	}
	return api.OK
}

func (l part) filterFault() api.Errno { return namesFault(l.N) }

func (l part) forkFault() api.Errno { return first([]api.Names{l.N, l.M}, namesFault) }

func namesFault(n api.Names) api.Errno {
	switch {
	case len(n.L) > maxNames:
		return api.ErrMany
	case slices.ContainsFunc(n.L, long):
		return api.ErrLong
	}
	return api.OK
}

func long(name string) bool { return len(name) > api.MaxName }

// first is the error of the first one that has one.
func first[T any](l []T, fault func(T) api.Errno) api.Errno {
	for _, x := range l {
		if e := fault(x); e != api.OK {
			return e
		}
	}
	return api.OK
}
