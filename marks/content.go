package marks

import "cadence/api"

// Names of what is below a content, in their order.
const (
	nameFolders = "folders"
	nameLinks   = "links"
)

// span is a piece of a file: from a byte, from 0 on, to ahead of another one.
type span struct{ from, to int }

func (s span) cut() api.Edit { return api.Edit{From: s.from, To: s.to} }

// content is what stands between a DL and its end, in a file.
type content struct {
	links   []link
	folders []folder
	back    span // the line of its end
}

// link is one, and its line.
type link struct {
	span
	place, title string
	at           int // where the title stands
}

// folder is one, from its H3 on to its content's end.
type folder struct {
	span
	name string
	in   content
}

func (c content) tree() api.Tree {
	return api.Tree{{Name: nameFolders, T: treeOf(c.folders)}, {Name: nameLinks, T: treeOf(c.links)}}
}

func (x link) key() string     { return x.place }
func (x link) below() api.Tree { return api.Tree{{Name: x.title}} }

func (x folder) key() string     { return x.name }
func (x folder) below() api.Tree { return x.in.tree() }

// halves are what a content, that fits, has below its two names.
func halves(t api.Tree) (folders, links api.Tree) { return t[0].T, t[1].T }

// fitsContent tells whether a content may be so, where this many folders may stand one in the other.
func fitsContent(t api.Tree, deep int) bool {
	if len(t) != 2 || t[0].Name != nameFolders || t[1].Name != nameLinks {
		return false
	}
	folders, links := halves(t)
	for _, x := range folders {
		if deep == 0 || !isPlain(x.Name) || !fitsContent(x.T, deep-1) {
			return false
		}
	}
	for _, x := range links {
		if !isPlain(x.Name) || !fitsTitle(x.T) {
			return false
		}
	}
	return true
}

func fitsTitle(t api.Tree) bool {
	return len(t) == 1 && isTitle(t[0].Name) && len(t[0].T) == 0
}
