package card

import "cadence/api"

// Names of what is below an id, in their order.
const (
	nameBlocks = "blocks"
	nameProps  = "props"
)

// block is one as it stands in a file.
type block struct {
	word, id        string // no id: its line has not come yet
	from, named, to int    // which lines, from 0 on, are its BEGIN, its ID and its END
	props           []prop
	blocks          []block
}

// prop is a property with one of its values, and which line says it.
type prop struct {
	name, value string
	at          int
}

func (b block) pair() pair { return pair{b.word, b.id} }

func (b block) below() api.Tree {
	return api.Tree{{Name: nameBlocks, T: treeOf(b.blocks)}, {Name: nameProps, T: treeOf(b.props)}}
}

func (p prop) pair() pair { return pair{p.name, p.value} }

func (p prop) below() api.Tree { return nil }

// halves are what a block's content, that fits, has below its two names.
func halves(content api.Tree) (blocks, props api.Tree) {
	return content[0].T, content[1].T
}

// fitsBlocks tells whether blocks may be so, where this many may stand one in the other.
func fitsBlocks(t api.Tree, deep int) bool {
	return fitsPairs(t, isWord, func(x api.Edge) bool {
		return deep > 0 && isPlain(x.Name) && fitsContent(x.T, deep-1)
	})
}

func fitsContent(t api.Tree, deep int) bool {
	if len(t) != 2 || t[0].Name != nameBlocks || t[1].Name != nameProps {
		return false
	}
	blocks, props := halves(t)
	return fitsBlocks(blocks, deep) && fitsPairs(props, isProperty, func(x api.Edge) bool { return len(x.T) == 0 })
}

// fitsPairs tells whether all upper names may be, and have lower ones that may be.
func fitsPairs(t api.Tree, isUpper func(string) bool, fitsLower func(api.Edge) bool) bool {
	for _, upper := range t {
		if !isUpper(upper.Name) || len(upper.T) == 0 {
			return false
		}
		for _, x := range upper.T {
			if !fitsLower(x) {
				return false
			}
		}
	}
	return true
}
