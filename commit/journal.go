package commit

import (
	"slices"

	"cadence/api"
	"cadence/code"
)

const (
	journal = "journal"
	mark    = "mark"
)

const (
	maxFiles = 8
	maxName  = 20
	maxBytes = 8000
)

// check tells what files may be written together. No journal says others, so it is asked of those read back, too.
func check(l []File) api.Errno {
	if len(l) < 1 || len(l) > maxFiles {
		return api.ErrArg
	}
	for i, x := range l {
		switch {
		case len(x.Name) < 1 || len(x.Name) > maxName || x.Name == journal || x.Name == mark:
			return api.ErrName
		case slices.ContainsFunc(l[:i], func(y File) bool { return y.Name == x.Name }):
			return api.ErrTwice
		case len(x.B) > maxBytes:
			return api.ErrLong
		}
	}
	return api.OK
}

// written is the journal's bytes.
func written(l []File) []byte {
	b := code.Byte(nil, len(l))
	for _, x := range l {
		b = code.Text(b, x.Name)
		b = code.Text(b, string(x.B))
	}
	return b
}

// read is the files of a journal, if it is as written has it. (One that is not there has no bytes, and is none, either.)
func read(b []byte) ([]File, bool) {
	r := code.New(b)
	l := make([]File, r.Byte())
	for i := range l {
		l[i].Name = r.Text()
		l[i].B = []byte(r.Text())
	}
	return l, r.End() == api.OK && check(l) == api.OK
}
