package marks

import (
	"slices"

	"cadence/api"
	"cadence/lines"
	"cadence/tree"
)

// file is one that was read.
type file struct {
	content
	end string // how new lines end
	t   api.Tree
}

func read(s string) (file, int, api.Errno) {
	if len(s) > api.MaxFile {
		return file{}, 0, api.ErrLong
	}
	l := lines.Split(s)
	r := reader{rows: rowsOf(l)}
	if !slices.ContainsFunc(r.rows, row.counts) {
		return file{}, 0, api.ErrNone
	}
	c, e := r.file()
	if e != api.OK {
		return file{}, r.line, e
	}
	t := c.tree()
	if e := tree.Check(t); e != api.OK {
		return file{}, 0, e
	}
	return file{content: c, end: lines.End(l), t: t}, 0, api.OK
}

// reader goes from row to row, no further than to one that has a fault: how many it read is that one's line, from 1 on.
type reader struct {
	rows []row
	line int // how many were read
}

// next is the next row that counts.
func (r *reader) next() row {
	for r.line < len(r.rows) {
		r.line++
		if x := r.rows[r.line-1]; x.counts() {
			return x
		}
	}
	return row{kind: over}
}

// want reads one of that kind, or finds a fault.
func (r *reader) want(kind int) api.Errno {
	if r.next().kind != kind {
		return api.ErrLine
	}
	return api.OK
}

func (r *reader) file() (content, api.Errno) {
	if e := r.want(top); e != api.OK {
		return content{}, e
	}
	c, e := r.content(0)
	if e == api.OK {
		e = r.want(over)
	}
	return c, e
}

// content reads from its DL on to its end; so many folders are around it.
func (r *reader) content(deep int) (content, api.Errno) {
	var c content
	e := r.want(open)
each:
	for e == api.OK {
		switch x := r.next(); x.kind {
		case linking:
			c.links, e = withLink(c.links, x)
		case heading:
			c.folders, e = r.withFolder(c.folders, x, deep+1)
		case shut:
			c.back = x.span
			break each
		default:
			e = api.ErrLine
		}
	}
	return c, e
}

func withLink(l []link, x row) ([]link, api.Errno) {
	if has(l, x.name) {
		return nil, api.ErrTwice
	}
	return append(l, link{span: x.span, place: x.name, title: x.title, at: x.at}), api.OK
}

// withFolder reads all of a folder, whose first row this is, and which stands so deep.
func (r *reader) withFolder(l []folder, x row, deep int) ([]folder, api.Errno) {
	if deep > maxDeep {
		return nil, api.ErrDeep
	}
	if has(l, x.name) {
		return nil, api.ErrTwice
	}
	in, e := r.content(deep)
	return append(l, folder{span: span{x.from, in.back.to}, name: x.name, in: in}), e
}
