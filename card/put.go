package card

import (
	"cmp"
	"slices"

	"cadence/api"
	"cadence/lines"
)

// put is the file of t, that fits.
func (f file) put(t api.Tree) string {
	n := len(f.lines)
	c := change{gone: make([]bool, n), ahead: make([][]string, n+1)}
	c.blocks(f.blocks, t, n)
	return lines.Join(c.of(f.lines))
}

// change is what becomes of a file's lines: which of them go, and which texts come ahead of each, and behind all.
type change struct {
	gone  []bool
	ahead [][]string
}

// blocks makes blocks, that stand beside one another, those of t; new ones come ahead of the line at that place.
func (c change) blocks(l []block, t api.Tree, at int) {
	for _, b := range l {
		if content, is := get(t, b.pair()); is {
			c.block(b, content)
		} else {
			c.drop(b)
		}
	}
	c.add(at, lacking(l, t, blockTexts))
}

// block adds new values ahead of new blocks, as both may come ahead of the same line.
func (c change) block(b block, content api.Tree) {
	blocks, props := halves(content)
	for _, p := range b.props {
		_, stays := get(props, p.pair())
		c.gone[p.at] = !stays
	}
	c.add(b.named+1, lacking(b.props, props, propTexts))
	c.blocks(b.blocks, blocks, b.to)
}

func (c change) drop(b block) {
	for i := b.from; i <= b.to; i++ {
		c.gone[i] = true
	}
}

func (c change) add(at int, texts []string) {
	c.ahead[at] = append(c.ahead[at], texts...)
}

// of are the lines as they are with the change. New ones end as the first line does, even where that goes.
func (c change) of(l []api.Line) []api.Line {
	end := lines.End(l)
	var made []api.Line
	for i, texts := range c.ahead {
		for _, text := range texts {
			made = append(made, api.Line{Text: text, End: end})
		}
		if i < len(l) && !c.gone[i] {
			made = append(made, l[i])
		}
	}
	for i := range len(made) - 1 {
		made[i].End = cmp.Or(made[i].End, end)
	}
	return made
}

func propTexts(p pair, _ api.Tree) []string {
	return []string{p.upper + ":" + writing(p.lower)}
}

func blockTexts(p pair, content api.Tree) []string {
	blocks, props := halves(content)
	return slices.Concat(
		[]string{wordBegin + ":" + p.upper, wordID + ":" + writing(p.lower)},
		lacking([]prop(nil), props, propTexts),
		lacking([]block(nil), blocks, blockTexts),
		[]string{wordEnd + ":" + p.upper},
	)
}
