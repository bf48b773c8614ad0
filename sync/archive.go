package sync

import (
	"cadence/api"
	"cadence/merge"
	"cadence/tree"
)

// parsed is what the archive says; it says nothing where there is none.
func parsed(x file) (merge.Opt, api.Errno) {
	if !x.is {
		return merge.Opt{}, api.OK
	}
	t, e := tree.Parse([]byte(x.text))
	if e != api.OK {
		return merge.Opt{}, e
	}
	return merge.Opt{Is: true, T: t}, api.OK
}

// written is the archive's file. At conflicts the archive keeps its own and elsewhere takes the sides', so it may be too great a tree where neither of them is.
func written(o merge.Opt) (file, api.Errno) {
	if !o.Is {
		return file{}, api.OK
	}
	if e := tree.Check(o.T); e != api.OK {
		return file{}, e
	}
	return file{true, string(tree.Bytes(o.T))}, api.OK
}
