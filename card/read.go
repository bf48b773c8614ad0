package card

import (
	"cadence/api"
	"cadence/lines"
	"cadence/tree"
)

// file is one that was read.
type file struct {
	lines  []api.Line
	blocks []block
	t      api.Tree
}

func read(s string) (file, int, api.Errno) {
	if len(s) > api.MaxFile {
		return file{}, 0, api.ErrLong
	}
	l := lines.Split(s)
	blocks, line, e := blocksOf(l)
	if e != api.OK {
		return file{}, line, e
	}
	t := treeOf(blocks)
	if e := tree.Check(t); e != api.OK {
		return file{}, 0, e
	}
	return file{lines: l, blocks: blocks, t: t}, 0, api.OK
}

// blocksOf are those that stand in no other, or the line, from 1 on, that has a fault.
func blocksOf(l []api.Line) ([]block, int, api.Errno) {
	r := reader{open: make([]block, 1)}
	for i, x := range l {
		if e := r.take(rowOf(x.Text), i); e != api.OK {
			return nil, i + 1, e
		}
	}
	if len(r.open) > 1 {
		return nil, len(l), api.ErrLine
	}
	return r.open[0].blocks, 0, api.OK
}

// reader has the blocks that are open, each in the one ahead of it. The first one is the file: it has no word, so that no END closes it.
type reader struct{ open []block }

func (r *reader) take(x row, at int) api.Errno {
	switch x.kind {
	case blank:
		return api.OK
	case opening:
		return r.begin(x.word, at)
	case closing:
		return r.end(x.word, at)
	case property:
		return r.property(x, at)
	}
	return api.ErrLine
}

func (r *reader) begin(word string, at int) api.Errno {
	if len(r.open) > maxDeep {
		return api.ErrDeep
	}
	r.open = append(r.open, block{word: word, from: at})
	return api.OK
}

func (r *reader) end(word string, at int) api.Errno {
	last := len(r.open) - 1
	b := r.open[last]
	if b.word != word || b.id == "" {
		return api.ErrLine
	}
	outer := &r.open[last-1]
	if has(outer.blocks, b.pair()) {
		return api.ErrTwice
	}
	b.to = at
	outer.blocks = append(outer.blocks, b)
	r.open = r.open[:last]
	return api.OK
}

func (r *reader) property(x row, at int) api.Errno {
	last := len(r.open) - 1
	switch {
	case last == 0:
		return api.ErrLine
	case x.word == wordID:
		return r.open[last].name(x.value, at)
	}
	return r.open[last].add(prop{name: x.word, value: x.value, at: at})
}

func (b *block) name(id string, at int) api.Errno {
	switch {
	case !isPlain(id):
		return api.ErrLine
	case b.id != "":
		return api.ErrTwice
	}
	b.id, b.named = id, at
	return api.OK
}

func (b *block) add(p prop) api.Errno {
	if has(b.props, p.pair()) {
		return api.ErrTwice
	}
	b.props = append(b.props, p)
	return api.OK
}
