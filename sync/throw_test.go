package sync_test

import (
	"strings"

	"cadence/api"
	"cadence/files"
	"cadence/lens"
	"cadence/schema"
	"cadence/tree"
	"cadence/vfs"
)

// die throws.
type die struct{ n uint64 }

func (d *die) of(k int) int {
	d.n = d.n*6364136223846793005 + 1442695040888963407
	return int(d.n>>33) % k
}

// pool is the names that trees of a form have below a definition of its schema.
func pool(form, def int) []string {
	key := form*10 + def
	switch {
	case key == 10 || key == 20:
		return []string{"s", "t", "u"}
	case key == 11 || key == 21:
		return []string{"k", "l", "m"}
	case key == 30:
		return []string{"C", "D"}
	case key == 31:
		return []string{"x", "y"}
	case key == 32:
		return []string{"blocks", "props"}
	case key == 33:
		return []string{"M", "N"}
	case key == 40:
		return []string{"folders", "links"}
	case key == 41:
		return []string{"f", "g"}
	case key == 42:
		return []string{"u", "v"}
	}
	return []string{"1", "2", "3"}
}

// fitting is a tree that files of a form may have, by a definition of its schema.
func (d *die) fitting(form, def, deep int) api.Tree {
	s := files.Schema(form)
	if len(s[def].Fields) == 0 {
		return nil
	}
	need := s[def].Fields[0].Need
	l := pool(form, def)
	must := d.of(len(l))
	var t api.Tree
	for i, name := range l {
		to := schema.To(s, def, name)
		take := d.of(2) == 0 && deep > 0 && !s[def].One
		if need || take || i == must && (s[def].One || s[def].Some) {
			t = append(t, e(name, d.fitting(form, to, deep-1)...))
		}
	}
	return t
}

// edited is t with some edges gone, others new, others changed, so that it fits still.
func (d *die) edited(form, def int, t api.Tree, deep int) api.Tree {
	s := files.Schema(form)
	if d.of(9) == 0 || s[def].One && d.of(4) == 0 {
		return d.fitting(form, def, deep)
	}
	var l api.Tree
	for _, name := range pool(form, def) {
		to := schema.To(s, def, name)
		below, there := tree.Get(t, []string{name})
		n := d.of(10)
		switch {
		case there && n > 1:
			l = append(l, e(name, d.edited(form, to, below, deep-1)...))
		case there && n > 0 || !there && n < 2 && to >= 0 && deep > 0:
			l = append(l, e(name, d.fitting(form, to, deep-1)...))
		}
	}
	if !schema.Level(s, def, l) {
		return t
	}
	return l
}

// written is a file that says t, in one of many ways.
func (d *die) written(form int, t api.Tree) string {
	s, e := files.Create(form, d.edited(form, 0, t, 4))
	if e != api.OK {
		panic("the test's own: " + tree.Text(t))
	}
	s = d.styled(form, s)
	s, e = files.Put(form, t, s)
	if e != api.OK {
		panic("the test's own: " + tree.Text(t) + ", " + s)
	}
	return s
}

// styled says the same in another way: with remarks, blanks, quotes, other ends of lines.
func (d *die) styled(form int, s string) string {
	l := strings.SplitAfter(s, "\n")
	text := ""
	for _, x := range l {
		n := d.of(6)
		switch {
		case x == "" || n > 2 || form == api.FCsv && n > 0:
		case form == api.FCsv:
			i := strings.IndexAny(x, ",\n")
			x = "\"" + x[:i] + "\"" + x[i:]
		case form == api.FIni:
			x = []string{";r\n", "# \n", "\n"}[n] + x
		case form == api.FCard || n == 0:
			x = " \t\n" + x
		default:
			x = " " + strings.TrimSuffix(x, "\n") + "\t\n"
		}
		text += x
	}
	if d.of(3) == 0 {
		text = strings.ReplaceAll(text, "\n", "\r\n")
	}
	if d.of(3) == 0 {
		text = strings.TrimSuffix(text, "\n")
	}
	if _, _, e := files.Load(form, text); e != api.OK {
		return s
	}
	return text
}

// config is one of many: mostly without a lens.
func (d *die) config(form int) api.Config {
	if d.of(2) == 0 {
		return api.Config{Form: form, L: api.Lens{Op: d.of(12)}}
	}
	root := pool(form, 0)
	own := files.Schema(form)
	hide := fork(names(root[0]), names(), is(nil, api.Tree{e(root[1])}), id())
	l := []api.Config{
		viewed(form, id(), free()), viewed(form, filter(root[0]), free()), viewed(form, filter(root[1], root[0]), free()), viewed(form, hide, free()), viewed(form, mapped(hide), free()),
		viewed(form, rename(root[0], "z"), free()), viewed(form, hoist(root[0]), free()), viewed(form, plunge("p"), free()), viewed(form, mapped(is(nil, nil)), free()), viewed(form, mapped(is(nil, api.Tree{e("q", e("1"))})), free()), viewed(form, mapped(is(nil, api.Tree{e("q")})), free()),
		viewed(form, is(api.Tree{e("v")}, nil), free()), viewed(form, seq(filter(root[0]), rename(root[0], "z")), free()), viewed(form, id(), own), viewed(form, mapped(filter(pool(form, 1)[0])), free()), viewed(form, mapped(mapped(is(api.Tree{e("1")}, api.Tree{e("2")}))), free()),
	}
	if form == api.FIni || form == api.FCsv {
		some, one := files.Schema(form), files.Schema(form)
		some[0].Some, one[1].One = true, true
		l = append(l, viewed(form, id(), some), viewed(form, id(), one), viewed(form, filter("s", "t")), viewed(form, mapped(filter("k", "l"))), viewed(form, mapped(rename("k", "z"))), viewed(form, mapped(fork(names("k"), names(), is(nil, api.Tree{e("k")}), id()))), viewed(form, mapped(fork(names("k"), names(), is(nil, api.Tree{e("z")}), id()))))
	}
	return l[d.of(len(l))]
}

// thrown is files that have much in common, and an archive, mostly of what they had.
type thrown struct {
	c       api.Config
	a, b, o string // o none: there is none
}

func (d *die) thrown() thrown {
	form := 1 + d.of(4)
	x := thrown{c: d.config(form), o: "none"}
	deep := 2 + d.of(3)
	base := d.fitting(form, 0, deep)
	x.a = d.written(form, d.edited(form, 0, base, deep))
	x.b = d.written(form, d.edited(form, 0, base, deep))
	t, l := base, api.Lens{Op: api.LId}
	if len(x.c.S) > 0 {
		l = x.c.L
	}
	switch d.of(12) {
	case 0:
		return x
	case 1:
		t, l = d.fitting(1+d.of(4), 0, deep), id()
	case 2:
		x.b = d.written(form, base)
	case 3:
		x.a, x.b = d.written(form, base), d.written(form, base)
	}
	view, e := lens.Get(l, t)
	if e != api.OK {
		return x
	}
	x.o = string(tree.Bytes(view))
	return x
}

// begun are its files, and what else there is.
func (x thrown) begun(more ...string) *vfs.Vfs {
	l := append([]string{"a", x.a, "b", x.b}, more...)
	if x.o != "none" {
		l = append(l, "o", x.o)
	}
	return begun(l...)
}

// odd is s, one byte of it another one, or one that is not there.
func (d *die) odd(s string) string {
	if s == "" {
		return "?"
	}
	i := d.of(len(s))
	if d.of(2) == 0 {
		return s[:i] + s[i+1:]
	}
	return s[:i] + string([]byte{"\n\r[]=,\"<:x\x00"[d.of(11)]}) + s[i+1:]
}
