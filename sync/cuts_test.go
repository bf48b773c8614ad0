package sync_test

import (
	"fmt"
	"testing"

	"cadence/api"
	"cadence/sync"
	"cadence/vfs"
)

// cuts goes through all that may be left of a Sync, of a Start behind it, and of a Start behind that, wherever the power goes and whatever stays, till no more is found.
type cuts struct {
	t          *testing.T
	x          thrown
	steps      int
	seen       map[string]int
	ahead      []*vfs.Vfs // behind a crash; not gone through
	old, after string
}

func (c *cuts) begun() *vfs.Vfs { return c.x.begun("z", "9") }

func newCuts(t *testing.T, x thrown) *cuts {
	c := &cuts{t: t, x: x, seen: map[string]int{}}
	v := c.begun()
	c.old = all(v)
	ops := v.Ops()
	if _, e := sync.Sync(v, x.c); e != api.OK {
		t.Fatalf("the test's own: %v", e)
	}
	c.after, c.steps = all(v), v.Ops()-ops
	return c
}

// copied is files as those are, flushed.
func copied(v *vfs.Vfs) *vfs.Vfs {
	var l []string
	for _, name := range v.Names() {
		l = append(l, name, show(v, name))
	}
	return begun(l...)
}

// left notes what is there behind a crash, if it is new.
func (c *cuts) left(v *vfs.Vfs, keep []int) {
	v.Crash(keep)
	if s := all(v); c.seen[s] == 0 {
		c.seen[s] = 1
		c.ahead = append(c.ahead, v)
	}
}

// syncs goes through all places where the power goes within the Sync.
func (c *cuts) syncs() {
	for n := 1; n <= c.steps+1; n++ {
		for _, keep := range keeps(3) {
			v := c.begun()
			v.Stop(n)
			r, e := sync.Sync(v, c.x.c)
			if (e == api.OK) != (n > c.steps) || e != api.OK && (e != api.ErrDead || answered(r) != "()") {
				c.t.Fatalf("P1702: stopped at %d: %v, %s", n, e, answered(r))
			}
			c.left(v, keep)
			if e == api.OK && all(v) != c.after {
				c.t.Fatalf("T4: Sync was OK: %s", all(v))
			}
		}
	}
}

// starts goes through all that is left, and what Start leaves of that.
func (c *cuts) starts() {
	for len(c.ahead) > 0 {
		v := c.ahead[0]
		c.ahead = c.ahead[1:]
		for n, e := 1, api.ErrDead; e != api.OK; n++ {
			for _, keep := range keeps(3) {
				w := copied(v)
				w.Stop(n)
				e = sync.Start(w)
				if e != api.OK && e != api.ErrDead || n > 20 {
					c.t.Fatalf("P1701: stopped at %d: %v", n, e)
				}
				if got := all(w); e == api.OK && got != c.old && got != c.after || e == api.OK && all(v) == c.after && got != c.after {
					c.t.Fatalf("T4: Start was OK: %s", got)
				}
				if e == api.OK {
					c.onceMore(copied(w))
				}
				c.left(w, keep)
			}
		}
	}
}

// onceMore holds that a Sync behind a Start does what the one that was cut was to do.
func (c *cuts) onceMore(v *vfs.Vfs) {
	if _, e := sync.Sync(v, c.x.c); e != api.OK || all(v) != c.after {
		c.t.Fatalf("T4, T3: once more: %v: %s", e, all(v))
	}
}

// P1703, T4: wherever the power goes, whatever stays, again and again.
func TestCuts(t *testing.T) {
	const s, k, l = "[s]\nm=1\n", "[s]\nm=1\nk=1234567\n", "[s]\r\nm=1\r\nl=22"
	o := bytesOf(1, s)
	for i, x := range []thrown{
		{ini(), k, l, o}, {ini(), k, l, "none"}, {ini(), k, s, o}, {ini(), s, l, o}, {ini(), k, k, o}, {ini(), s, s, "none"}, {ini(), "", "", "none"}, {ini(), "", s, o},
		{ini(), "[s]\nm=2\nk=1\n", "[s]\nm=3\nl=2\n", o}, {ini(), s, "[s]\nm=2\n", "none"}, {viewed(1, filter("s")), k + "[t]\n", "[u]\n" + l, o},
		{api.Config{Form: 4}, page("u", "1"), page("v", "2"), bytesOf(4, page("", ""))}, {api.Config{Form: 2}, "key,k\nx,1\n", "key,l\nx,2\ny,3", "none"}, {api.Config{Form: 3}, "BEGIN:C\nID:x\nEND:C\n", "\nBEGIN:C\nID:y\nN:1\nEND:C", "none"},
	} {
		c := newCuts(t, x)
		c.syncs()
		c.starts()
		if c.seen[c.old] == 0 || c.seen[c.after] == 0 || len(c.seen) < 5 {
			t.Errorf("the test's own: %d: %d ways", i, len(c.seen))
		}
	}
}

// P1703, T4: scripts of edits, Syncs and crashes, of all forms: behind each Start all files are as ahead of the Sync, or as behind it.
func TestCutsThrown(t *testing.T) {
	d := &die{174}
	met := map[string]int{}
	for range 600 {
		x := d.thrown()
		v := x.begun()
		for range 4 {
			old, w := all(v), copied(v)
			want, f := sync.Sync(w, x.c)
			v.Stop(d.of(16))
			r, e := sync.Sync(v, x.c)
			dead := v.Dead()
			v.Crash([]int{d.of(3), d.of(3), d.of(3)})
			for n := d.of(4); n > 0; n-- {
				v.Stop(d.of(10))
				sync.Start(v)
				v.Crash([]int{d.of(3), d.of(3), d.of(3)})
			}
			if e := sync.Start(v); e != api.OK {
				t.Fatalf("P1701: %v", e)
			}
			got := all(v)
			if got != all(w) && (got != old || e == api.OK) || dead != (e == api.ErrDead) || e != f && !dead || e == api.OK && answered(r) != answered(want) {
				t.Fatalf("T4: %v, %v: %s, not %s or %s", e, f, got, old, all(w))
			}
			met[fmt.Sprint(e == api.OK, got == old, got == all(w))]++
			name := string("ab"[d.of(2)])
			v.Write(name, []byte(d.written(x.c.Form, d.edited(x.c.Form, 0, loaded(x.c.Form, show(v, name)), 3))))
			v.Flush()
		}
	}
	for s, least := range map[string]int{"true false true": 100, "true true true": 50, "false true false": 50, "false false true": 50} {
		if met[s] < least {
			t.Errorf("the test's own: %q: %d times", s, met[s])
		}
	}
}
