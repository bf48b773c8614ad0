package commit_test

import (
	"strings"
	"testing"

	"cadence/api"
	"cadence/commit"
	"cadence/vfs"
)

// cuts goes through all that may be left of a Commit, and of a Recover behind it, and of a Recover behind that, wherever the power goes and whatever stays, till no more is found.
type cuts struct {
	t          *testing.T
	room       int
	was, l     string
	seen       map[string]int
	ahead      []*vfs.Vfs // behind a crash; not gone through
	old, after string
}

func newCuts(t *testing.T, room int, was, l string) *cuts {
	v := begun(t, room, was)
	for _, x := range files(l) {
		v.Write(x.Name, x.B)
	}
	return &cuts{t: t, room: room, was: was, l: l, seen: map[string]int{}, old: all(begun(t, room, was)), after: all(v)}
}

// again makes files that are as those are: what a crash leaves is flushed.
func (c *cuts) again(v *vfs.Vfs) *vfs.Vfs {
	w := vfs.New(c.room)
	for _, name := range v.Names() {
		b, _, _ := v.Read(name)
		if e := w.Write(name, b); e != api.OK {
			c.t.Fatalf("P1603: %.100q, %.100q: more than there is room for: %s", c.was, c.l, told(v))
		}
	}
	w.Flush()
	return w
}

// left notes what is there behind a crash, if it is new.
func (c *cuts) left(v *vfs.Vfs, keep []int) {
	v.Crash(keep)
	if s := all(v); c.seen[s] == 0 {
		c.seen[s] = 1
		c.ahead = append(c.ahead, v)
	}
}

// commits goes through all places where the power goes within the Commit, up to the one behind it.
func (c *cuts) commits() {
	for n, e := 1, api.ErrDead; e != api.OK; n++ {
		for _, keep := range keeps(len(files(c.l))) {
			v := begun(c.t, c.room, c.was)
			v.Stop(n)
			e = commit.Commit(v, files(c.l))
			if (e == api.OK) != (n > 9+len(files(c.l))) || e != api.OK && e != api.ErrDead {
				c.t.Fatalf("P1601: %s: stopped at %d: %v", c.l, n, e)
			}
			c.left(v, keep)
			if e == api.OK && all(v) != c.after {
				c.t.Fatalf("P1603: %s: Commit was OK: %s", c.l, all(v))
			}
		}
	}
}

// recovers goes through all that is left, and what Recover leaves of that. What it leaves is at last as all of l says, if anything that is so was ahead of it.
func (c *cuts) recovers() {
	for len(c.ahead) > 0 {
		v := c.ahead[0]
		c.ahead = c.ahead[1:]
		for n, e := 1, api.ErrDead; e != api.OK; n++ {
			for _, keep := range keeps(len(files(c.l))) {
				w := c.again(v)
				w.Stop(n)
				e = commit.Recover(w)
				if e != api.OK && (e != api.ErrDead || !w.Dead()) || n > 20 {
					c.t.Fatalf("P1602: %s: stopped at %d: %v", c.l, n, e)
				}
				if got := all(w); e == api.OK && got != c.old && got != c.after {
					c.t.Fatalf("P1603: %s, %s: Recover was OK: %s", c.was, c.l, got)
				}
				if all(v) == c.after && e == api.OK && all(w) != c.after {
					c.t.Fatalf("P1603: %s, %s: not as it was: %s", c.was, c.l, all(w))
				}
				c.left(w, keep)
			}
		}
	}
}

// P1603, T4: wherever the power goes, whatever stays, again and again; with just as much room as Commit asks for.
func TestCuts(t *testing.T) {
	for _, x := range [][2]string{
		{"", "a=1234"}, {"a=1234", "a=567"}, {"a=12", "a=3456789"}, {"a=1234", "a="}, {"a=1", "b=2345"},
		{"a=1234 b=5678 z=1", "a=90 b=ABCDEF"}, {"a=1234 b=5678", "b=xyzXYZ a="}, {"a=12345", "a=54321 b=12345"}, {"z=9", "a=1 b=22 c=333"}, {"a=123456 b=1 c=1234", "c= b=abcdefg a=xy"}, {"a=1 b=2 c=3", "a=abcd b=efgh c=ijkl"}, {"a=1111 b=22 c=3 d=4444", "a=1 b=2222 c=33 d="},
		{"a=12 o=34 b=56", "a=123456789 o= b=7"},
	} {
		need := used(t, x[0]) + len(journalOf(files(x[1]))) + gain(x[0], x[1])
		for _, room := range []int{need, need + 100} {
			c := newCuts(t, room, x[0], x[1])
			c.commits()
			c.recovers()
			if c.seen[c.old] == 0 || c.seen[c.after] == 0 || len(c.seen) < 6 {
				t.Errorf("the test's own: %d ways", len(c.seen))
			}
		}
	}
}

// P1603: what stays of each of eight files is its own.
func TestCutsOfEight(t *testing.T) {
	was, l := "a=1 c=333 e=55555 g=7", "h=8 g=77 f=666666 e= d=4444 c=3 b=22 a=1111"
	d := &die{163}
	room := used(t, was) + len(journalOf(files(l))) + gain(was, l)
	c := newCuts(t, room, was, l)
	for range 20000 {
		v := begun(t, room, was)
		v.Stop(1 + d.of(18))
		first := commit.Commit(v, files(l))
		v.Crash(d.marks())
		for range d.of(4) {
			v.Stop(1 + d.of(14))
			commit.Recover(v)
			v.Crash(d.marks())
		}
		e := commit.Recover(v)
		if got := all(v); e != api.OK || got != c.after && (got != c.old || first == api.OK) {
			t.Fatalf("P1603: %v: %s", e, got)
		}
	}
}

// marks are of up to nine.
func (d *die) marks() []int {
	l := make([]int, d.of(10))
	for i := range l {
		l[i] = d.of(3)
	}
	return l
}

// P1603: several Commits, one behind the other: each is done wholly, or not at all, and those that were OK stay.
func TestCommitsInARow(t *testing.T) {
	d := &die{164}
	for range 3000 {
		v := begun(t, 150, "a=0 b=0 o=0")
		was := all(v)
		for range 6 {
			s := strings.Repeat(string([]byte{byte('A' + d.of(26))}), d.of(9))
			l := files("a=" + s + " o=" + s + s + " b=" + s)
			next := "a=" + s + " b=" + s + " o=" + s + s
			v.Stop(d.of(16))
			e := commit.Commit(v, l)
			v.Crash(d.marks())
			f := commit.Recover(v)
			got := all(v)
			if f != api.OK || got != next && (got != was || e == api.OK) {
				t.Fatalf("P1603: %v, %v: %s, not %s or %s", e, f, got, was, next)
			}
			was = got
		}
	}
}
