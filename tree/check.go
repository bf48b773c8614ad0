package tree

import "cadence/api"

// judge is told edges one by one, each ahead of what is below it, in order. Check and Parse have one, so that both find the same faults in the same order.
type judge struct {
	told  int
	names []string // of the edge told last and of those that it is below, from the top on
}

// edge tells what is wrong with the next one; behind an error it is not called again.
func (j *judge) edge(deep int, name string) api.Errno {
	j.told++
	switch {
	case j.told > api.MaxSize:
		return api.ErrMany
	case deep > api.MaxDepth:
		return api.ErrDeep
	case len(name) > api.MaxName:
		return api.ErrLong
	case len(j.names) >= deep && name <= j.names[deep-1]:
		return api.ErrName
	}
	j.names = append(j.names[:deep-1], name)
	return api.OK
}

func Check(t api.Tree) api.Errno {
	var j judge
	for deep, x := range edges(t) {
		if e := j.edge(deep, x.Name); e != api.OK {
			return e
		}
	}
	return api.OK
}
