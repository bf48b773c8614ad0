package sync_test

import (
	"fmt"
	"strings"
	"testing"

	"cadence/api"
	"cadence/sync"
	"cadence/tree"
	"cadence/vfs"
)

// row is a Sync: what is there, what is there then. An archive is written as the file that says the same; none: there is none; same: as it was.
type row struct {
	form             int
	a, b, o          string
	a2, b2, o2, told string
}

func (x row) begun(room int) *vfs.Vfs {
	l := []string{"a", x.a, "b", x.b}
	if x.o != "none" {
		l = append(l, "o", bytesOf(x.form, x.o))
	}
	return roomFor(room, l...)
}

// hold holds what is there to what shall be there.
func (x row) hold(t *testing.T, v *vfs.Vfs) {
	t.Helper()
	same := func(s, was string) string {
		if s == "same" {
			return was
		}
		return s
	}
	wanted(t, "P1702", "a", show(v, "a"), same(x.a2, x.a))
	wanted(t, "P1702", "b", show(v, "b"), same(x.b2, x.b))
	o := same(x.o2, x.o)
	if o == "none" {
		wanted(t, "P1702", "the archive", archive(t, v), o)
		return
	}
	wanted(t, "P1702", "the archive", archive(t, v), tree.Text(loaded(x.form, o)))
	wanted(t, "P1702", "the archive", show(v, "o"), bytesOf(x.form, o))
}

// P1702: no lens. What is there, what is told; done again all stays.
func TestSync(t *testing.T) {
	for i, x := range rows() {
		c := api.Config{Form: x.form, L: api.Lens{Op: 77, Kids: make([]api.Lens, 3)}}
		v := x.begun(20000)
		r, e := sync.Sync(v, c)
		if e != api.OK || answered(r) != x.told {
			t.Errorf("P1702: %d: %v, %s, not %s", i, e, answered(r), x.told)
		}
		x.hold(t, v)
		ops := v.Ops()
		v.Stop(1)
		again, e := sync.Sync(v, c)
		if want := "(" + conflicts(r.L) + ")"; e != api.OK || answered(again) != want || v.Ops() != ops {
			t.Errorf("T3, T5: %d: again: %v, %s", i, e, answered(again))
		}
		if v.Flush() != api.ErrDead {
			t.Errorf("T5: %d: again: a Stop is gone", i)
		}
		v.Crash(nil)
		x.hold(t, v)
		other := row{x.form, x.b, x.a, x.o, x.b2, x.a2, x.o2, strings.NewReplacer("a b (", "a b (", "a (", "b (", "b (", "a (").Replace(x.told)}
		v = other.begun(20000)
		r, e = sync.Sync(v, c)
		if e != api.OK || answered(r) != other.told {
			t.Errorf("P1202, P1702: %d: the other way about: %v, %s", i, e, answered(r))
		}
		other.hold(t, v)
	}
}

func rows() []row {
	const s1, s2, s3 = "[s]\nk=1\n", "[s]\nk=2\n", "[s]\nk=3\n"
	return []row{
		// nothing, or no archive
		{1, "", "", "none", "same", "same", "", "()"}, {1, "", "", "", "same", "same", "same", "()"}, {1, "", "", s1, "same", "same", "", "()"}, {1, ";r\n", "\n\r\n", "none", "same", "same", "", "()"},
		{1, s1, "", "none", "same", s1, s1, "b ()"}, {1, s1, s1, "none", "same", "same", s1, "()"}, {1, s1, " [s] \r\nk = 1", "none", "same", "same", s1, "()"}, {1, s1, "[t]\nl=2\n", "none", s1 + "[t]\nl=2\n", "[t]\nl=2\n" + s1, s1 + "[t]\nl=2\n", "a b ()"},
		{1, s1, s2, "none", "same", "same", "[s]\n", "(shape s k)"}, {1, s1 + "l=4\n", s2, "none", "same", s2 + "l=4\n", "[s]\nl=4\n", "b (shape s k)"},
		// one side changed
		{1, s2, s1, s1, "same", s2, s2, "b ()"}, {1, "", s1, s1, "same", "", "", "b ()"}, {1, s1, s1 + ";r\n", s1, "same", "same", "same", "()"}, {1, s1, s1, s2, "same", "same", s1, "()"}, {1, s1, "", s1, "", "same", "", "a ()"},
		{1, s1 + "l=\n", "#r\r\n[s]\r\n  k  =  1  \r\n#q", s1, "same", "#r\r\n[s]\r\n  k  =  1  \r\nl=\r\n#q", s1 + "l=\n", "b ()"}, {1, "[s]\nk=1", s1 + "[t]", s1, s1 + "[t]\n", "same", s1 + "[t]\n", "a ()"},
		// both sides changed
		{1, s2 + "l=1\n", s1 + "l=2\n", s1 + "l=1\n", s2 + "l=2\n", s2 + "l=2\n", s2 + "l=2\n", "a b ()"}, {1, s2, s2, s1, "same", "same", s2, "()"}, {1, s2, ";\n" + s2 + ";\n", s1, "same", "same", s2, "()"},
		// conflicts
		{1, s2, s3, s1, "same", "same", "same", "(shape s k)"}, {1, "", s2, s1, "same", "same", "same", "(gone s)"}, {1, "[s]\n", s2, s1, "same", "same", "same", "(gone s k)"},
		{1, "[r]\n" + s2, s3 + "[t]\n", s1, "[r]\n" + s2 + "[t]\n", s3 + "[t]\n[r]\n", "[r]\n" + s1 + "[t]\n", "a b (shape s k)"}, {1, s2 + "l=1\n[t]\nm=1\n", s3 + "l=2\n[u]\n", s1 + "[t]\n", s2 + "l=1\n[t]\nm=1\n[u]\n", s3 + "l=2\n[u]\n", s1 + "[t]\n[u]\n", "a (shape s k, shape s l, gone t)"},
		// rows
		{2, "key\n", "key\n", "none", "same", "same", "key\n", "()"}, {2, "key,k\nx,1\n", "key\n", "none", "same", "key,k\nx,1\n", "key,k\nx,1\n", "b ()"}, {2, "key,k,l\nx,1,2\n", "key,l,k\r\nx,3,\"1\"\r\n", "key,k,l\nx,1,3\n", "same", "key,l,k\r\nx,2,\"1\"\r\n", "key,k,l\nx,1,2\n", "b ()"},
		{2, "key,k\nx,2\n", "key,k\nx,3\ny,1", "key,k\nx,1\n", "key,k\nx,2\ny,1\n", "same", "key,k\nx,1\ny,1\n", "a (shape x k)"}, {2, "key,k\nx,\n", "key,k\nx,2\n", "key,k\nx,1\n", "same", "same", "same", "(gone x k)"},
		// blocks
		{3, "", "BEGIN:C\nID:x\nN:1\nEND:C\n", "none", "BEGIN:C\nID:x\nN:1\nEND:C\n", "same", "BEGIN:C\nID:x\nN:1\nEND:C\n", "a ()"}, {3, "BEGIN:C\nID:x\nN:1\nEND:C\n", "BEGIN:C\n\nN:2\nID:x\nEND:C\n", "none", "BEGIN:C\nID:x\nN:2\nN:1\nEND:C\n", "BEGIN:C\n\nN:2\nID:x\nN:1\nEND:C\n", "BEGIN:C\nID:x\nN:1\nN:2\nEND:C\n", "a b ()"},
		{3, "", "BEGIN:C\nID:x\nN:1\nEND:C\n", "BEGIN:C\nID:x\nEND:C\n", "same", "same", "same", "(gone C)"}, {3, "BEGIN:C\nID:x\nM:1\nN:1\nEND:C\n", "BEGIN:C\nID:x\nM:2\nEND:C\n", "BEGIN:C\nID:x\nM:1\nEND:C\n", "BEGIN:C\nID:x\nM:2\nN:1\nEND:C\n", "BEGIN:C\nID:x\nN:1\nM:2\nEND:C\n", "BEGIN:C\nID:x\nM:2\nN:1\nEND:C\n", "a b ()"},
		// folders
		{4, page("", ""), page("", ""), "none", "same", "same", page("", ""), "()"}, {4, page("u", "1"), page("", ""), page("", ""), "same", page("u", "1"), page("u", "1"), "b ()"}, {4, page("u", "1"), " " + page("u", "2") + "\t", page("u", "3"), "same", "same", "same", "(shape links u)"}, {4, page("", ""), page("u", "2"), page("u", "1"), "same", "same", "same", "(gone links u)"},
	}
}

// page is a file of one link, or of none.
func page(place, title string) string {
	link := ""
	if place != "" {
		link = "<A HREF=\"" + place + "\">" + title + "</A>\n"
	}
	return "<!MARKS>\n<DL>\n" + link + "</DL>\n"
}

// P1702: a conflict at the whole tree, where the archive is nothing: it stays nothing, and all as it was.
func TestConflictAtTheRoot(t *testing.T) {
	value := api.Schema{{Fields: []api.Field{{N: but(), To: 1}}, One: true}, {Fields: []api.Field{{N: but(), To: 1}}}}
	c := viewed(api.FIni, id(), value)
	v := begun("a", "[x]\n", "b", "[y]\n")
	was := told(v)
	r, e := sync.Sync(v, c)
	if e != api.OK || answered(r) != "(shape)" || told(v) != was {
		t.Errorf("P1702: %v, %s: %s", e, answered(r), told(v))
	}
	v = begun("a", "[x]\n", "b", "[y]\n", "o", bytesOf(api.FIni, "[z]\n"))
	was = told(v)
	r, e = sync.Sync(v, c)
	if e != api.OK || answered(r) != "(shape)" || told(v) != was {
		t.Errorf("P1702: %v, %s: %s", e, answered(r), told(v))
	}
	v = begun("a", "[x]\n", "b", "[x]\n\n")
	r, e = sync.Sync(v, c)
	if e != api.OK || answered(r) != "()" || archive(t, v) != `{"x": {}}` {
		t.Errorf("P1702: %v, %s: %s", e, answered(r), told(v))
	}
}

// P1702: files of other names do not count, and stay.
func TestOtherFiles(t *testing.T) {
	v := begun("a", "[x]\n", "b", "", "A", "?", "c", "[y]\n", "O", "x", "aa", "")
	if r, e := sync.Sync(v, ini()); e != api.OK || answered(r) != "b ()" {
		t.Errorf("P1702: %v, %s", e, answered(r))
	}
	wanted(t, "P1702", "all files", all(v), `A="?" O="x" a="[x]\n" aa="" b="[x]\n" c="[y]\n" o=`+fmt.Sprintf("%q", bytesOf(1, "[x]\n")))
}

// P1702: it is what was written last that counts, flushed or not; and all is flushed then.
func TestNotFlushed(t *testing.T) {
	v := begun("a", "?", "b", "[y]\n", "o", "bad")
	v.Write("a", []byte("[x]\n"))
	v.Write("b", nil)
	v.Remove("o")
	if r, e := sync.Sync(v, ini()); e != api.OK || answered(r) != "b ()" {
		t.Errorf("P1702: %v, %s", e, answered(r))
	}
	was := all(v)
	v.Crash(nil)
	wanted(t, "P1702", "behind a crash", all(v), was)
	wanted(t, "P1702", "a, b", show(v, "a")+show(v, "b"), "[x]\n[x]\n")
}

// P1702, T5: where nothing is another one nothing is done, not even a Flush.
func TestNothingToDo(t *testing.T) {
	v := begun("a", "[x]\n", "b", "", "o", bytesOf(1, ""))
	v.Write("a", []byte(";r\n"))
	ops := v.Ops()
	if r, e := sync.Sync(v, ini()); e != api.OK || answered(r) != "()" || v.Ops() != ops {
		t.Errorf("P1702: %v, %s: %d", e, answered(r), v.Ops()-ops)
	}
	v.Crash(nil)
	wanted(t, "T5", "a, behind a crash", show(v, "a"), "[x]\n")
}

// P1702: what is written, by the journal: those that are others, a ahead of o ahead of b. A file that was none is another one.
func TestWhatIsWritten(t *testing.T) {
	const s, l, both = "[s]\nk=1\n", "[s]\nl=2\n", "[s]\nk=1\nl=2\n"
	const both2 = "[s]\nl=2\nk=1\n"
	for i, x := range []struct {
		a, b, o string
		want    []string
	}{
		{s, l, "[s]\n", []string{"a", both, "o", bytesOf(1, both), "b", both2}}, {s, l, "none", []string{"a", both, "o", bytesOf(1, both), "b", both2}},
		{s, "[s]\n", "[s]\n", []string{"o", bytesOf(1, s), "b", s}}, {"[s]\n", s, "[s]\n", []string{"a", s, "o", bytesOf(1, s)}},
		{s, s, "[s]\n", []string{"o", bytesOf(1, s)}}, {"", "", "none", []string{"o", "\x00\x00"}}, {s, s, "none", []string{"o", bytesOf(1, s)}},
		{"[s]\nk=1\n", "[s]\nk=2\n", "none", []string{"o", bytesOf(1, "[s]\n")}}, {"[s]\nk=1\n[t]\n", "[s]\nk=2\n", "[s]\nk=3\n[t]\n", []string{"a", "[s]\nk=1\n", "o", bytesOf(1, "[s]\nk=3\n")}},
	} {
		v := row{form: 1, a: x.a, b: x.b, o: x.o}.begun(20000)
		v.Stop(1)
		if r, e := sync.Sync(v, ini()); e != api.ErrDead || answered(r) != "()" {
			t.Errorf("P1702: %d: %v, %s", i, e, answered(r))
		}
		v.Crash([]int{1})
		wanted(t, "P1702", fmt.Sprint(i, ": the journal"), fmt.Sprintf("%q", show(v, "journal")), fmt.Sprintf("%q", journal(x.want...)))
		v = row{form: 1, a: x.a, b: x.b, o: x.o}.begun(20000)
		ops := v.Ops()
		if _, e := sync.Sync(v, ini()); e != api.OK || v.Ops()-ops != 9+len(x.want)/2 {
			t.Errorf("P1702: %d: %v, %d steps", i, e, v.Ops()-ops)
		}
	}
}
