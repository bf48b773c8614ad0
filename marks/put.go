package marks

import (
	"cmp"
	"slices"
	"strings"

	"cadence/api"
)

// edits make a content that of t, that fits. What is new comes at one place, so that no two edits are at odds.
func (c content) edits(t api.Tree, end string) []api.Edit {
	folders, links := halves(t)
	return slices.Concat(
		editsOf(c.links, links, end),
		editsOf(c.folders, folders, end),
		[]api.Edit{{From: c.back.from, To: c.back.from, Put: c.lacking(t, end)}},
	)
}

// edits put the title that t has: if it is the same one, so are its bytes.
func (x link) edits(below api.Tree, _ string) []api.Edit {
	return []api.Edit{{From: x.at, To: x.at + len(writing(x.title)), Put: writing(below[0].Name)}}
}

func (x folder) edits(below api.Tree, end string) []api.Edit { return x.in.edits(below, end) }

// lacking is the text of what t has and the content has not.
func (c content) lacking(t api.Tree, end string) string {
	folders, links := halves(t)
	return lacking(c.links, links, linkText, end) + lacking(c.folders, folders, folderText, end)
}

func linkText(x api.Edge, end string) string {
	return linkFront + writing(x.Name) + linkMid + writing(x.T[0].Name) + linkBack + end
}

func folderText(x api.Edge, end string) string {
	return headFront + writing(x.Name) + headBack + end + wordOpen + end + content{}.lacking(x.T, end) + wordShut + end
}

// with is a file with edits, of which none is in another one. No line needs an End that it has not: the last one is the file's </DL>, or stands behind it, and so stays the last one.
func with(s string, l []api.Edit) string {
	slices.SortFunc(l, func(a, b api.Edit) int { return cmp.Compare(a.From, b.From) })
	var b strings.Builder
	at := 0
	for _, x := range l {
		b.WriteString(s[at:x.From])
		b.WriteString(x.Put)
		at = x.To
	}
	b.WriteString(s[at:])
	return b.String()
}
