package sync

import (
	"cadence/api"
	"cadence/commit"
	"cadence/vfs"
)

// The files' names.
const (
	nameA = "a"
	nameB = "b"
	nameO = "o"
)

// file is one, or (is false, text empty) none.
type file struct {
	is   bool
	text string
}

// kept is all files that are kept in step: both, and the archive.
type kept struct{ a, o, b file }

// read takes all that Sync needs of v, once: what comes behind it works on what was read.
func read(v *vfs.Vfs) (kept, api.Errno) {
	if v.Dead() {
		return kept{}, api.ErrDead
	}
	k := kept{a: fileOf(v, nameA), o: fileOf(v, nameO), b: fileOf(v, nameB)}
	if !k.a.is || !k.b.is {
		return kept{}, api.ErrNone
	}
	return k, api.OK
}

func fileOf(v *vfs.Vfs, name string) file {
	b, is, _ := v.Read(name)
	return file{is, string(b)}
}

// write asks nothing of v where nothing is another one, so that not even a Flush is done then.
func write(v *vfs.Vfs, was, is kept) api.Errno {
	l := others(was, is)
	if len(l) == 0 {
		return api.OK
	}
	return commit.Commit(v, l)
}

// others are the files that are not as they were, in the order in which they are written.
func others(was, is kept) []commit.File {
	var l []commit.File
	for _, x := range []struct {
		name    string
		was, is file
	}{
		{nameA, was.a, is.a},
		{nameO, was.o, is.o},
		{nameB, was.b, is.b},
	} {
		if x.is != x.was {
			l = append(l, commit.File{Name: x.name, B: []byte(x.is.text)})
		}
	}
	return l
}
