package sync_test

import (
	"fmt"
	"testing"

	"cadence/api"
	"cadence/commit"
	"cadence/files"
	"cadence/lens"
	"cadence/merge"
	"cadence/schema"
	"cadence/sync"
	"cadence/tree"
	"cadence/vfs"
)

// back is what becomes of a file, by the chapter's words.
func back(c api.Config, text string, t, was, is api.Tree) (string, api.Errno) {
	if tree.Text(was) == tree.Text(is) {
		return text, api.OK
	}
	t, e := lens.Put(c.L, is, t)
	if e != api.OK {
		return "", e
	}
	return files.Put(c.Form, t, text)
}

// plain is the chapter's Sync anew, one thing behind the other.
func plain(v *vfs.Vfs, c api.Config) (none sync.Result, _ api.Errno) {
	if e := sync.Check(c); e != api.OK {
		return none, e
	}
	if len(c.S) == 0 {
		c.S, c.L = files.Schema(c.Form), id()
	}
	if v.Dead() {
		return none, api.ErrDead
	}
	var text [3]string
	var there [3]bool
	for i, name := range []string{"a", "b", "o"} {
		b, is, _ := v.Read(name)
		text[i], there[i] = string(b), is
	}
	if !there[0] || !there[1] {
		return none, api.ErrNone
	}
	var l, view [2]api.Tree
	var e api.Errno
	for i := range 2 {
		if l[i], _, e = files.Load(c.Form, text[i]); e != api.OK {
			return none, e
		}
	}
	for i := range 2 {
		if view[i], e = lens.Get(c.L, l[i]); e != api.OK {
			return none, e
		}
	}
	if !schema.Fits(c.S, 0, view[0]) || !schema.Fits(c.S, 0, view[1]) {
		return none, api.ErrFit
	}
	o := merge.Opt{Is: there[2]}
	if there[2] {
		if o.T, e = tree.Parse([]byte(text[2])); e != api.OK {
			return none, e
		}
	}
	o2, a2, b2, told := merge.Merge(c.S, o, merge.Opt{Is: true, T: view[0]}, merge.Opt{Is: true, T: view[1]})
	var then [3]string
	for i, x := range []merge.Opt{a2, b2} {
		if then[i], e = back(c, text[i], l[i], view[i], x.T); e != api.OK {
			return none, e
		}
	}
	if o2.Is {
		if e := tree.Check(o2.T); e != api.OK {
			return none, e
		}
		then[2] = string(tree.Bytes(o2.T))
	}
	return committed(v, text, then, there[2] || !o2.Is, told)
}

// committed writes what is another one, a ahead of o ahead of b.
func committed(v *vfs.Vfs, text, then [3]string, sameO bool, told []api.Conflict) (sync.Result, api.Errno) {
	var l []commit.File
	for _, i := range []int{0, 2, 1} {
		if text[i] != then[i] || i == 2 && !sameO {
			l = append(l, commit.File{Name: string("abo"[i]), B: []byte(then[i])})
		}
	}
	if len(l) > 0 {
		if e := commit.Commit(v, l); e != api.OK {
			return sync.Result{}, e
		}
	}
	return sync.Result{L: told, A: text[0] != then[0], B: text[1] != then[1]}, api.OK
}

// oddly is what was thrown, now and then not as it should be; where the power goes; how much room there is.
func (d *die) oddly() (x thrown, stop, room int, gone string) {
	x, room = d.thrown(), 20000
	switch d.of(24) {
	case 0:
		x.a = d.odd(x.a)
	case 1:
		x.b = d.odd(x.b)
	case 2:
		x.a, x.b = d.odd(x.a), d.odd(x.b)
	case 3:
		x.o = d.odd(x.o)
	case 4:
		x.a, x.b, x.o = d.odd(x.a), d.odd(x.b), d.odd(x.o)
	case 5, 6:
		room = len(x.a) + len(x.b) + len(x.o) + d.of(300)
	case 7:
		gone = string("abo"[d.of(3)])
	case 8:
		x.c.Form = 1 + d.of(4)
	case 9:
		x.c = api.Config{Form: d.of(7), L: api.Lens{Op: d.of(11)}, S: make(api.Schema, d.of(15))}
	case 10:
		x.a += keys("w", "w", 10+d.of(150))
		x.b += keys("w", "q", 10+d.of(150))
	}
	return x, d.of(30), room, gone
}

// P1702: whatever is there, all that may be asked behind a Sync is as the chapter has it; and behind a crash, and Start, and once more.
func TestThrown(t *testing.T) {
	d := &die{17}
	errors, met := map[api.Errno]int{}, map[string]int{}
	for range 4000 {
		x, stop, room, gone := d.oddly()
		start := func() *vfs.Vfs {
			v := vfs.New(room)
			for _, f := range [][2]string{{"a", x.a}, {"b", x.b}, {"o", x.o}} {
				if f[0] != gone && f != [2]string{"o", "none"} {
					v.Write(f[0], []byte(f[1]))
				}
			}
			v.Flush()
			v.Stop(stop)
			return v
		}
		v, w := start(), start()
		for i := range 3 {
			got, e := sync.Sync(v, x.c)
			want, f := plain(w, x.c)
			errors[e]++
			met[map[bool]string{true: "some"}[len(got.L) > 0]+" "+answered(sync.Result{A: got.A, B: got.B})]++
			if e != f || answered(got) != answered(want) || told(v) != told(w) {
				t.Fatalf("P1702: %d: %q, %q, %q, %v: %v, %s, not %v, %s: %s, not %s", i, x.a, x.b, x.o, x.c, e, answered(got), f, answered(want), told(v), told(w))
			}
			if v.Dead() {
				keep := []int{d.of(3), d.of(3), d.of(3)}
				v.Crash(keep)
				w.Crash(keep)
			}
			if e, f := sync.Start(v), commit.Recover(w); e != f || told(v) != told(w) {
				t.Fatalf("P1701: %v, not %v: %s", e, f, told(v))
			}
		}
	}
	for _, e := range []api.Errno{api.OK, api.ErrDead, api.ErrFull, api.ErrLine, api.ErrKind, api.ErrFit, api.ErrMany, api.ErrNone, api.ErrCut, api.ErrTwice} {
		if errors[e] < 10 {
			t.Errorf("the test's own: %v: %d times", e, errors[e])
		}
	}
	for _, s := range []string{" ()", " a ()", " b ()", " a b ()", "some ()", "some a ()", "some b ()", "some a b ()"} {
		if met[s] < 50 {
			t.Errorf("the test's own: %q: %d times", s, met[s])
		}
	}
	if t.Failed() {
		t.Log(fmt.Sprint(errors, met))
	}
}
