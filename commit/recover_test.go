package commit_test

import (
	"slices"
	"strings"
	"testing"

	"cadence/api"
	"cadence/commit"
	"cadence/vfs"
)

// left is a journal with these bytes beside files that are as was says, flushed; and a mark.
func left(t *testing.T, room int, was, journal string) *vfs.Vfs {
	t.Helper()
	v := begun(t, room, was)
	if e := v.Write("journal", []byte(journal)); e != api.OK {
		t.Fatalf("the test's own: %v", e)
	}
	v.Write("mark", nil)
	v.Flush()
	return v
}

// P1602: of no files; of files that are none of its own: nothing is done.
func TestNothingToDo(t *testing.T) {
	for _, s := range []string{"", "a=1", "a=1 b=", "Mark= Journal= journals=1 marks= mar= journa="} {
		v := begun(t, 100, s)
		put(v, "c=1")
		v.Stop(1)
		was := told(v)
		if e := commit.Recover(v); e != api.OK || told(v) != was {
			t.Errorf("P1602: %s: %v: %s, not %s", s, e, told(v), was)
		}
		v.Crash(nil)
		wanted(t, "P1602", "what was not flushed", all(v), all(begun(t, 100, s)))
	}
}

// P1602: with a mark the journal's files are written, whatever the mark's bytes.
func TestMarked(t *testing.T) {
	for _, x := range []struct{ was, l, want string }{
		{"", "a=1", "a=1"}, {"a=1", "a=2", "a=2"}, {"a=1", "a=", "a="}, {"a=1 b=2", "b=3 c=4", "a=1 b=3 c=4"}, {"", "a b c d e f g h", "a= b= c= d= e= f= g= h="}, {"a=1", "a=1", "a=1"}, {"", strings.Repeat("n", 20) + "=\x00", strings.Repeat("n", 20) + "=\x00"}, {"z=1", "\xff=\xfe", "z=1 \xff=\xfe"},
	} {
		for _, mark := range []string{"", "1", "mark"} {
			v := left(t, 200, x.was, journalOf(files(x.l)))
			put(v, "mark="+mark)
			ops := v.Ops()
			e := commit.Recover(v)
			wanted(t, "P1602", x.l, all(v), x.want)
			if e != api.OK || v.Ops()-ops != 5+len(files(x.l)) {
				t.Errorf("P1602: %s: %v, %d", x.l, e, v.Ops()-ops)
			}
			v.Crash(nil)
			wanted(t, "P1602", x.l+", behind a crash", all(v), x.want)
		}
	}
}

// P1602: without a mark the journal goes, whatever its bytes.
func TestNotMarked(t *testing.T) {
	for _, s := range []string{"", "\x00", "x", "\x01\x01\x00a\x01\x002", journalOf(files("a=2 b=3")), journalOf(files("mark"))} {
		v := begun(t, 100, "a=1")
		v.Write("journal", []byte(s))
		v.Flush()
		ops := v.Ops()
		if e := commit.Recover(v); e != api.OK || v.Ops()-ops != 2 {
			t.Errorf("P1602: %q: %v, %d", s, e, v.Ops()-ops)
		}
		wanted(t, "P1602", s, all(v), "a=1")
		v.Crash(nil)
		wanted(t, "P1602", s+", behind a crash", all(v), "a=1")
	}
}

// P1602: journals that are none, as Commit writes them; nothing is done then, again and again.
func TestBad(t *testing.T) {
	n21 := strings.Repeat("n", 21)
	good := journalOf(files("a=2 b=33"))
	bad := []string{
		"", "\x00", "\x00\x00", "\x01", "\x09", "\xff", "\x02", good + "\x00", good + good, "\x00" + good[1:], "\x01" + good[1:], "\x03" + good[1:], "\xff" + good[1:], "\x00" + good,
		journalOf(nil), journalOf(files("a b c d e f g h i")), journalOf(files(strings.Repeat("a ", 255))), "\x08" + journalOf(files("a b c d e f g h i"))[1:],
		journalOf(files("=1")), journalOf(files("a =1")), journalOf(files(n21)), journalOf(files("a " + n21 + "=1")), journalOf(files("mark")), journalOf(files("a=1 mark=")), journalOf(files("journal=1")), journalOf(files("a b journal")),
		journalOf(files("a=1 a=1")), journalOf(files("a=1 b=2 a=3")), journalOf(files("a=" + strings.Repeat("x", 8001))), journalOf(files("a=1 b=" + strings.Repeat("x", 8001))), journalOf(files("a=" + strings.Repeat("x", 65535))), journalOf(files(strings.Repeat("n", 300))),
		"\x01\x00\x01a\x01\x002", "\x01\x01\x00a\x00\x012", strings.Replace(journalOf(files("a=1")), "\x01\x00a", "\x01\x00\x00a", 1),
	}
	for n := range good {
		bad = append(bad, good[:n])
	}
	for _, s := range bad {
		v := left(t, 1<<20, "a=1", s)
		put(v, "c=3")
		was := told(v)
		for range 2 {
			if e := commit.Recover(v); e != api.ErrBad || told(v) != was {
				t.Errorf("P1602: %.60q: %v", s, e)
			}
		}
		v.Crash(nil)
		wanted(t, "P5", s, all(v), all(left(t, 1<<20, "a=1", s)))
	}
	for _, mark := range []string{"mark=", "mark=1", "mark= a=1"} {
		v := begun(t, 100, mark)
		was := told(v)
		if e := commit.Recover(v); e != api.ErrBad || told(v) != was {
			t.Errorf("P1602: a mark alone: %v", e)
		}
	}
	v := left(t, 1<<20, "a=1", journalOf(files("a="+strings.Repeat("x", 8000)+" "+strings.Repeat("n", 20))))
	if e := commit.Recover(v); e != api.OK {
		t.Errorf("P1602: as long as may be: %v", e)
	}
}

// P1602, P6: without power that is told ahead of all else.
func TestRecoverDead(t *testing.T) {
	for _, v := range []*vfs.Vfs{begun(t, 50, ""), begun(t, 50, "journal=1"), begun(t, 50, "mark="), left(t, 50, "a=1", journalOf(files("a=2"))), left(t, 50, "a=1", "bad"), left(t, 20, "", journalOf(files("a=1234567890")))} {
		dead(v)
		was := told(v)
		if e := commit.Recover(v); e != api.ErrDead || told(v) != was {
			t.Errorf("P1602: %v: %s", e, told(v))
		}
	}
}

// P1602, P5: where there is no room for a Write, which no Commit leaves behind, nothing is done.
func TestRecoverFull(t *testing.T) {
	for _, x := range []struct {
		was, l string
		need   int
	}{
		{"", "a=123", 9 + 3}, {"a=123", "a=1234", 10 + 4}, {"a=12", "a=1 b=2345", 1 + 6 + 9 + 5}, {"a=12", "b=2345 a=1", 1 + 6 + 9 + 6}, {"a=1 z=12", "a= b=1 c=23", 1 + 5 + 6 + 7 + 5}, {"a=12345 b=1", "b=1 a=54321", 1 + 6 + 10 + 6},
	} {
		v := left(t, x.need, x.was, journalOf(files(x.l)))
		if e := commit.Recover(v); e != api.OK {
			t.Errorf("P1602: %s, %s: %d: %v", x.was, x.l, x.need, e)
		}
		if x.need-1 < used(t, x.was)+len(journalOf(files(x.l))) {
			continue
		}
		v = left(t, x.need-1, x.was, journalOf(files(x.l)))
		was := told(v)
		if e := commit.Recover(v); e != api.ErrFull || told(v) != was {
			t.Errorf("P1602, P5: %s, %s: %d: %v: %s", x.was, x.l, x.need-1, e, told(v))
		}
	}
}

// P1602, P5: so, too, where it was filled since then; what was not flushed is not flushed by it.
func TestRecoverFilled(t *testing.T) {
	v := left(t, 40, "a=12", journalOf(files("c=1 a=3456")))
	put(v, "b="+strings.Repeat("x", 40-v.Used()-2))
	was := told(v)
	if e := commit.Recover(v); e != api.ErrFull || told(v) != was {
		t.Errorf("P1602, P5: %v: %s", e, told(v))
	}
	v.Crash(nil)
	if e := commit.Recover(v); e != api.OK {
		t.Errorf("P1602: %v", e)
	}
	wanted(t, "P1602", "room again", all(v), "a=3456 c=1")
}

// P1602: the steps, as P1601's.
func TestRecoverSteps(t *testing.T) {
	l := files("c=345 a=")
	for i, x := range []struct{ all, none string }{
		{"a=12 c=345 z=9 J M", "a=12 z=9 J M"}, // Write of c
		{"a= c=345 z=9 J M", "a=12 z=9 J M"},   // Write of a
		{"a= c=345 z=9 J M", "a=12 z=9 J M"},   // Flush
		{"a= c=345 z=9 J", "a= c=345 z=9 J M"}, // Remove of the mark
		{"a= c=345 z=9 J", "a= c=345 z=9 J M"}, // Flush
		{"a= c=345 z=9", "a= c=345 z=9 J"},     // Remove of the journal
		{"a= c=345 z=9", "a= c=345 z=9 J"},     // Flush
	} {
		stopped(t, left(t, 100, "a=12 z=9", journalOf(l)), l, i+1, []int{1, 1}, x.all, commit.Recover)
		stopped(t, left(t, 100, "a=12 z=9", journalOf(l)), l, i+1, nil, x.none, commit.Recover)
	}
	for i := range 2 {
		for _, keep := range []int{0, 1, 2} {
			v := begun(t, 100, "z=9")
			v.Write("journal", []byte(journalOf(l)))
			v.Flush()
			stopped(t, v, l, i+1, []int{keep}, []string{"z=9 J", "z=9", "z=9"}[keep], commit.Recover)
		}
	}
}

// P1602: any journal that Commit writes is read as it was written, and none of its bytes may be another one unseen.
func TestJournalThrown(t *testing.T) {
	d := &die{162}
	for range 3000 {
		l := d.files()
		if refusal(l) != api.OK {
			continue
		}
		s := []byte(journalOf(l))
		if d.of(3) > 0 {
			s[d.of(len(s))] ^= byte(1 << d.of(8))
		}
		v := left(t, 1000, "a=1", string(s))
		want, is := said(string(s))
		e := commit.Recover(v)
		if is != (e == api.OK) || !is && e != api.ErrBad {
			t.Fatalf("P1602: %q: %v", s, e)
		}
		for _, x := range want {
			if b, _, _ := v.Read(x.Name); is && !slices.Equal(b, x.B) {
				t.Fatalf("P1602: %q: %s", s, told(v))
			}
		}
	}
}
