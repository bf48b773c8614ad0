package tree

import (
	"cadence/api"
	"cadence/code"
)

// Bytes lets code write each part behind nothing: behind all that is there already it would copy that each time.
func Bytes(t api.Tree) []byte {
	b := count(t)
	for _, x := range edges(t) {
		b = append(b, code.Text(nil, x.Name)...)
		b = append(b, count(x.T)...)
	}
	return b
}

// count is how many edges t's root has, as two bytes.
func count(t api.Tree) []byte {
	return code.Byte(code.Byte(nil, len(t)), len(t)>>8)
}

func Parse(b []byte) (api.Tree, api.Errno) {
	p := parser{r: code.New(b)}
	t := p.tree(1)
	if e := p.r.End(); e != api.OK {
		return nil, e
	}
	return t, api.OK
}

// parser reads a tree; its reader keeps the first error, whosever it is.
type parser struct {
	r *code.Reader
	j judge
}

// tree calls itself: the judge lets no edge stand deeper than MaxDepth.
func (p *parser) tree(deep int) api.Tree {
	var t api.Tree
	for range p.count() {
		name, ok := p.name(deep)
		if !ok {
			return nil
		}
		t = append(t, api.Edge{Name: name, T: p.tree(deep + 1)})
	}
	return t
}

func (p *parser) count() int {
	low := p.r.Byte()
	return low | p.r.Byte()<<8
}

// name is the next edge's, if there is no error yet. One of the reader's stays ahead of the judge's.
func (p *parser) name(deep int) (string, bool) {
	name := p.r.Text()
	if !p.fine() {
		return "", false
	}
	p.r.Fail(p.j.edge(deep, name))
	return name, p.fine()
}

// fine tells whether there is no error yet; bytes that are left are none, as more is to be read.
func (p *parser) fine() bool {
	e := p.r.End()
	return e == api.OK || e == api.ErrMore
}
