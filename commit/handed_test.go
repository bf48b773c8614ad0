package commit_test

import (
	"fmt"
	"slices"
	"strings"
	"testing"

	"cadence/api"
	"cadence/commit"
	"cadence/vfs"
)

// P2: what Commit is handed is not changed, its spare room neither, whatever comes of it; and spare room does not count.
func TestListHandedIn(t *testing.T) {
	for n := range 14 {
		for _, l := range [][]commit.File{files("a=12 b=345 c="), files("b=x"), files("a=1 mark=2"), files("a=1 a=2"), files("a=" + strings.Repeat("x", 200)), files("a b c d e f g h")} {
			spare := roomy(l, files("a=1 mark=2")...)
			for i := range spare {
				spare[i].B = roomy(spare[i].B, 'y', 'z')
			}
			was := fmt.Sprintf("%q", whole(spare))
			v, w := begun(t, 100, "a=1"), begun(t, 100, "a=1")
			v.Stop(n)
			w.Stop(n)
			e, f := commit.Commit(v, spare), commit.Commit(w, l)
			wanted(t, "P2", "what was handed in", fmt.Sprintf("%q", whole(spare)), was)
			wanted(t, "P2", was, fmt.Sprint(e, told(v)), fmt.Sprint(f, told(w)))
		}
	}
}

// whole is a list of files, the spare room of all lists too.
func whole(l []commit.File) []commit.File {
	l = slices.Clone(l[:cap(l)])
	for i, x := range l {
		l[i].B = x.B[:cap(x.B)]
	}
	return l
}

// P2: what Commit was handed is not kept: neither by the files, nor by the journal.
func TestNotKept(t *testing.T) {
	for n := range 13 {
		l := files("a=12 b=345")
		v := begun(t, 100, "a=old")
		v.Stop(n)
		e := commit.Commit(v, l)
		for i := range l {
			for k := range l[i].B {
				l[i].B[k] = 'z'
			}
			l[i] = commit.File{Name: "other", B: nil}
		}
		v.Crash([]int{1, 1, 1})
		f := commit.Recover(v)
		want := "a=12 b=345"
		if n == 1 || n == 2 {
			want = "a=old"
		}
		wanted(t, "P2", fmt.Sprint(n, e, f), all(v), want)
	}
}

// P2: files whose bytes share memory, or are what was read of the files themselves.
func TestShared(t *testing.T) {
	b := []byte("123456")
	v := begun(t, 100, "a=old b=older")
	if e := commit.Commit(v, []commit.File{{Name: "a", B: b[:4]}, {Name: "b", B: b[2:]}, {Name: "c", B: b}}); e != api.OK {
		t.Errorf("P1601: %v", e)
	}
	wanted(t, "P1601", "bytes that are shared", all(v), "a=1234 b=3456 c=123456")
	one, _, _ := v.Read("a")
	two, _, _ := v.Read("b")
	if e := commit.Commit(v, []commit.File{{Name: "a", B: two}, {Name: "b", B: one}}); e != api.OK {
		t.Errorf("P1601: %v", e)
	}
	wanted(t, "P1601", "one for the other", all(v), "a=3456 b=1234 c=123456")
}

// P2: no list and an empty one are the same.
func TestEmptyLists(t *testing.T) {
	for _, none := range [][]commit.File{nil, {}} {
		if e := commit.Commit(begun(t, 100, ""), none); e != api.ErrArg {
			t.Errorf("P2, P1601: no files: %v", e)
		}
	}
	for n := range 12 {
		v, w := begun(t, 100, "a=1"), begun(t, 100, "a=1")
		v.Stop(n)
		w.Stop(n)
		e, f := commit.Commit(v, []commit.File{{Name: "a"}, {Name: "b"}}), commit.Commit(w, []commit.File{{Name: "a", B: []byte{}}, {Name: "b", B: []byte{}}})
		wanted(t, "P2", "no bytes", fmt.Sprint(e, told(v)), fmt.Sprint(f, told(w)))
	}
}

// P3: the same calls in the same order answer the same.
func TestSame(t *testing.T) {
	for seed := range uint64(200) {
		var got [2]string
		for i := range got {
			d := &die{seed}
			v, w := vfs.New(90), vfs.New(90)
			for range 40 {
				what, e, _ := d.thrown(v, w)
				got[i] += what + e.Error() + told(v)
			}
		}
		wanted(t, "P3", fmt.Sprint(seed), got[1], got[0])
	}
}

// P5: what is refused changes nothing that a later call could tell: what was not flushed is not flushed by it, and a Stop stays set.
func TestRefusedChangesNothing(t *testing.T) {
	refused := []string{"", "mark", "a a", "=", "a=" + strings.Repeat("x", 8001), "a=" + strings.Repeat("x", 100)}
	for _, s := range refused {
		for _, keep := range keeps(2) {
			v, w := begun(t, 50, "a=1 b=2"), begun(t, 50, "a=1 b=2")
			put(v, "a=3456 -b")
			put(w, "a=3456 -b")
			v.Stop(2)
			w.Stop(2)
			if e := commit.Commit(v, files(s)); e == api.OK || told(v) != told(w) {
				t.Errorf("P5: %.30q: %v: %s", s, e, told(v))
			}
			if v.Write("c", nil) != w.Write("c", nil) || v.Flush() != api.ErrDead || w.Flush() != api.ErrDead {
				t.Errorf("P5: %.30q: Stop", s)
			}
			v.Crash(keep)
			w.Crash(keep)
			wanted(t, "P5", s, told(v), told(w))
		}
	}
}

// P7: several files, side by side, do not touch one another.
func TestSideBySide(t *testing.T) {
	v, w := begun(t, 100, "a=1"), begun(t, 100, "a=2")
	v.Stop(5)
	if commit.Commit(v, files("a=3 b=4")) != api.ErrDead || commit.Recover(w) != api.OK || commit.Commit(w, files("a=5")) != api.OK {
		t.Error("P7: two at once")
	}
	wanted(t, "P7", "the other one", all(w), "a=5")
	v.Crash(nil)
	wanted(t, "P7", "the one", fmt.Sprint(commit.Recover(v), all(v)), fmt.Sprint(api.OK, "a=3 b=4"))
	wanted(t, "P7", "the other one", all(w), "a=5")
}

// P7: each of several goroutines has files of its own; the list is one that all of them are handed.
func TestAtOnce(t *testing.T) {
	l := files("a=12 b=345 c=")
	row := func() string {
		s := ""
		for n := range 13 {
			v := vfs.New(60)
			v.Stop(n)
			e := commit.Commit(v, l)
			v.Crash([]int{1, 2, 1})
			s += fmt.Sprint(e, commit.Recover(v), told(v))
		}
		return s
	}
	want := row()
	done := make(chan string)
	for range 8 {
		go func() {
			s := ""
			for range 30 {
				if got := row(); got != want {
					s = got
				}
			}
			done <- s
		}()
	}
	for range 8 {
		if s := <-done; s != "" {
			t.Errorf("P3, P7: %s, not %s", s, want)
		}
	}
}

// P1: files that vfs.New did not make are there, and have no room.
func TestNotMade(t *testing.T) {
	v := &vfs.Vfs{}
	if e, f := commit.Commit(v, files("a=")), commit.Recover(v); e != api.ErrFull || f != api.OK {
		t.Errorf("P1: %v, %v", e, f)
	}
}
