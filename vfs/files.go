package vfs

// Marks of what a crash keeps.
const (
	keptWhole = 1
	keptHalf  = 2
)

// file is one, or says that there is none of that name. Nobody writes to its bytes, so several may share them.
type file struct {
	name string
	b    []byte
	gone bool
}

// files count their bytes as they change: files without bytes may be so many that they are not to be gone through at each Write.
type files struct {
	by   map[string][]byte
	used int
}

func (f *files) at(name string) file {
	b, is := f.by[name]
	return file{name, b, !is}
}

func (f *files) set(x file) {
	f.used += len(x.b) - len(f.by[x.name])
	if x.gone {
		delete(f.by, x.name)
		return
	}
	if f.by == nil {
		f.by = map[string][]byte{}
	}
	f.by[x.name] = x.b
}

// replay sets those of l that keep says. Its place tells what becomes of one: from half on it is set like a whole one, but that its bytes were cut ahead of that.
func (f *files) replay(l []file, keep []int) {
	var x file
	i := -1
next:
	i++
	if i >= len(l) || i >= len(keep) {
		return
	}
	x = l[i]
	switch keep[i] {
	case keptWhole:
		goto whole
	case keptHalf:
		goto half
	}
	goto next
half:
	x.b = x.b[:len(x.b)/2]
whole:
	f.set(x)
	goto next
}
