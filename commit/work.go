package commit

import (
	"cadence/api"
	"cadence/vfs"
)

// place tells how far the work is: what was flushed of it.
type place int

const (
	nothing    place = iota
	marked           // the journal and the mark: from here on the journal says what the files are
	allWritten       // all files, and the mark is gone
)

// work is done step by step; behind a step that has an error none is done.
type work struct {
	v   *vfs.Vfs
	l   []File
	b   []byte // the journal's
	err api.Errno
}

// from does what is still to be done at a place: a Commit goes all the way, a Recover comes in where the power went. Each Flush parts two steps of which the later one must not stay without the one ahead.
func (w *work) from(p place) api.Errno {
	switch p {
	case marked:
		goto files
	case allWritten:
		goto end
	}
	w.write(File{journal, w.b})
	w.flush()
	w.write(File{mark, nil})
	w.flush()
files:
	for _, x := range w.l {
		w.write(x)
	}
	w.flush()
	w.remove(mark)
	w.flush()
end:
	w.remove(journal)
	w.flush()
	return w.err
}

func (w *work) write(x File) {
	if w.err == api.OK {
		w.err = w.v.Write(x.Name, x.B)
	}
}

func (w *work) remove(name string) {
	if w.err == api.OK {
		w.err = w.v.Remove(name)
	}
}

func (w *work) flush() {
	if w.err == api.OK {
		w.err = w.v.Flush()
	}
}
