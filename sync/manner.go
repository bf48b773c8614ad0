package sync

import (
	"cadence/api"
	"cadence/files"
	"cadence/lens"
	"cadence/merge"
	"cadence/schema"
	"cadence/tree"
)

// manner is a Config that is whole: it has a schema, and a lens that counts.
type manner api.Config

// whole puts the form's own schema where there is none.
func whole(c api.Config) api.Config {
	if len(c.S) == 0 {
		return api.Config{Form: c.Form, L: api.Lens{Op: api.LId}, S: files.Schema(c.Form)}
	}
	return c
}

// side is one of the two files, the tree that was loaded of it, the view of that, and what the view is then.
type side struct {
	text          string
	t, view, then api.Tree
}

// inStep tells what all files are then; it writes none.
func (m manner) inStep(was kept) (kept, []api.Conflict, api.Errno) {
	x, e := m.seen(pair[side]{side{text: was.a.text}, side{text: was.b.text}})
	if e != api.OK {
		return kept{}, nil, e
	}
	o, e := parsed(was.o)
	if e != api.OK {
		return kept{}, nil, e
	}
	o, a, b, l := merge.Merge(m.S, o, merge.Opt{Is: true, T: x.a.view}, merge.Opt{Is: true, T: x.b.view})
	x.a.then, x.b.then = a.T, b.T
	texts, e := both(x, m.back)
	if e != api.OK {
		return kept{}, nil, e
	}
	archive, e := written(o)
	if e != api.OK {
		return kept{}, nil, e
	}
	return kept{a: file{true, texts.a}, o: archive, b: file{true, texts.b}}, l, api.OK
}

// seen finds both views. It is a step of both ahead of the next one: so the errors stand, too.
func (m manner) seen(x pair[side]) (pair[side], api.Errno) {
	for _, step := range []func(side) (side, api.Errno){m.load, m.look, m.hold} {
		var e api.Errno
		if x, e = both(x, step); e != api.OK {
			return pair[side]{}, e
		}
	}
	return x, api.OK
}

func (m manner) load(x side) (side, api.Errno) {
	var e api.Errno
	x.t, _, e = files.Load(m.Form, x.text)
	return x, e
}

func (m manner) look(x side) (side, api.Errno) {
	var e api.Errno
	x.view, e = lens.Get(m.L, x.t)
	return x, e
}

// hold holds a view to the schema.
func (m manner) hold(x side) (side, api.Errno) {
	if !schema.Fits(m.S, 0, x.view) {
		return x, api.ErrFit
	}
	return x, api.OK
}

// back puts what the view is then into the text, which stays where the view does.
func (m manner) back(x side) (string, api.Errno) {
	if tree.Same(x.then, x.view) {
		return x.text, api.OK
	}
	t, e := lens.Put(m.L, x.then, x.t)
	if e != api.OK {
		return "", e
	}
	return files.Put(m.Form, t, x.text)
}
