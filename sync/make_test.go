package sync_test

import (
	"fmt"
	"strings"
	"testing"

	"cadence/api"
	"cadence/files"
	"cadence/lens"
	"cadence/sync"
	"cadence/tree"
	"cadence/vfs"
)

// roomFor are files of so much room, each a name and what it is, flushed.
func roomFor(room int, l ...string) *vfs.Vfs {
	v := vfs.New(room)
	for i := 0; i < len(l); i += 2 {
		if e := v.Write(l[i], []byte(l[i+1])); e != api.OK {
			panic("the test's own: " + l[i] + ": " + e.Error())
		}
	}
	v.Flush()
	return v
}

func begun(l ...string) *vfs.Vfs { return roomFor(40000, l...) }

// dead is v, without power.
func dead(v *vfs.Vfs) *vfs.Vfs {
	v.Stop(1)
	v.Flush()
	return v
}

// show is a file, or none.
func show(v *vfs.Vfs, name string) string {
	b, is, _ := v.Read(name)
	if !is {
		return "none"
	}
	return string(b)
}

// all is the files that are there, by name.
func all(v *vfs.Vfs) string {
	var l []string
	for _, name := range v.Names() {
		l = append(l, fmt.Sprintf("%s=%q", name, show(v, name)))
	}
	return strings.Join(l, " ")
}

// told is all that may be asked of them.
func told(v *vfs.Vfs) string {
	return fmt.Sprintf("%d of %d, %d, %t: %s", v.Used(), v.Room(), v.Ops(), v.Dead(), all(v))
}

// archive is the archive's tree, as text, or none.
func archive(t *testing.T, v *vfs.Vfs) string {
	t.Helper()
	s := show(v, "o")
	if s == "none" {
		return s
	}
	x, e := tree.Parse([]byte(s))
	if e != api.OK {
		t.Errorf("P1702: the archive: %v", e)
	}
	return tree.Text(x)
}

// loaded is a file's tree, which must be one.
func loaded(form int, s string) api.Tree {
	x, line, e := files.Load(form, s)
	if e != api.OK {
		panic(fmt.Sprintf("the test's own: %q: %d: %v", s, line, e))
	}
	return x
}

// bytesOf are those of the archive that says what a file does.
func bytesOf(form int, s string) string { return string(tree.Bytes(loaded(form, s))) }

// seen is the view of a file.
func seen(t *testing.T, c api.Config, s string) api.Tree {
	t.Helper()
	x, _, e := files.Load(c.Form, s)
	if e != api.OK {
		t.Fatalf("T1: %q: %v", s, e)
	}
	if len(c.S) == 0 {
		return x
	}
	view, e := lens.Get(c.L, x)
	if e != api.OK {
		t.Fatalf("P1703: %q has no view: %v", s, e)
	}
	return view
}

// conflicts are written as a path's names, and the kind.
func conflicts(l []api.Conflict) string {
	var s []string
	for _, x := range l {
		kind := map[int]string{api.KGone: "gone", api.KShape: "shape"}[x.Kind]
		s = append(s, strings.TrimSpace(kind+" "+strings.Join(x.Path, " ")))
	}
	return strings.Join(s, ", ")
}

// answered is a Result: which files are others, the conflicts.
func answered(r sync.Result) string {
	s := ""
	if r.A {
		s += "a "
	}
	if r.B {
		s += "b "
	}
	return s + "(" + conflicts(r.L) + ")"
}

// ini is a Config of sections, by no lens.
func ini() api.Config { return api.Config{Form: api.FIni} }

// names is a set of these; but is one of all others.
func names(l ...string) api.Names { return api.Names{L: l} }

func but(l ...string) api.Names { return api.Names{All: true, L: l} }

// free is a schema of all trees.
func free() api.Schema { return api.Schema{{Fields: []api.Field{{N: but()}}}} }

// viewed is a Config with that lens, and a schema, the form's own if there is none.
func viewed(form int, l api.Lens, s ...api.Schema) api.Config {
	c := api.Config{Form: form, L: l, S: files.Schema(form)}
	for _, x := range s {
		c.S = x
	}
	return c
}

func filter(l ...string) api.Lens { return api.Lens{Op: api.LFilter, N: names(l...)} }

func rename(a, b string) api.Lens { return api.Lens{Op: api.LRename, A: a, B: b} }

func mapped(kid api.Lens) api.Lens { return api.Lens{Op: api.LMap, Kids: []api.Lens{kid}} }

func seq(kids ...api.Lens) api.Lens { return api.Lens{Op: api.LSeq, Kids: kids} }

func fork(n, m api.Names, in, out api.Lens) api.Lens {
	return api.Lens{Op: api.LFork, N: n, M: m, Kids: []api.Lens{in, out}}
}

func id() api.Lens { return api.Lens{Op: api.LId} }

// is is the lens that sees t always, of a tree that is u where it is not known.
func is(t, u api.Tree) api.Lens { return api.Lens{Op: api.LConst, T: t, U: u} }

// e is an edge with these below it.
func e(name string, below ...api.Edge) api.Edge { return api.Edge{Name: name, T: below} }

// keys is a section with so many of them, whose names begin with s.
func keys(section, s string, n int) string {
	text := "[" + section + "]\n"
	for i := range n {
		text += fmt.Sprintf("%s%03d=\n", s, i)
	}
	return text
}

// keeps are all lists of so many marks, each below 3.
func keeps(n int) [][]int {
	all := [][]int{nil}
	for range n {
		var more [][]int
		for _, l := range all {
			for k := range 3 {
				more = append(more, append(append([]int(nil), l...), k))
			}
		}
		all = more
	}
	return all
}

// wanted holds a text to what the promise says of it.
func wanted(t *testing.T, promise, what, got, want string) {
	t.Helper()
	if got != want {
		t.Errorf("%s: %s: %s, not %s", promise, what, got, want)
	}
}
