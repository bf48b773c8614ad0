package sync_test

import (
	"fmt"
	"runtime"
	"slices"
	"testing"
	"time"

	"cadence/api"
	"cadence/sync"
	"cadence/vfs"
)

// roomy is l with spare room behind it, in which something stands.
func roomy[T any](l []T, spare T) []T {
	return append(append(make([]T, 0, len(l)+2), l...), spare, spare)[:len(l)]
}

// The spacious are as they were, each list with spare room behind it.
func spaciousTree(t api.Tree) api.Tree {
	l := slices.Clone(t)
	for i := range l {
		l[i].T = spaciousTree(l[i].T)
	}
	return roomy(l, e("spare"))
}

func spaciousNames(n api.Names) api.Names {
	return api.Names{All: n.All, L: roomy(n.L, "spare")}
}

func spaciousLens(l api.Lens) api.Lens {
	kids := slices.Clone(l.Kids)
	for i := range kids {
		kids[i] = spaciousLens(kids[i])
	}
	l.N, l.M, l.T, l.U, l.Kids = spaciousNames(l.N), spaciousNames(l.M), spaciousTree(l.T), spaciousTree(l.U), roomy(kids, rename("spare", "spare"))
	return l
}

func spacious(c api.Config) api.Config {
	s := slices.Clone(c.S)
	for i := range s {
		fields := slices.Clone(s[i].Fields)
		for k := range fields {
			fields[k].N = spaciousNames(fields[k].N)
		}
		s[i].Fields = roomy(fields, api.Field{To: 99})
	}
	return api.Config{Form: c.Form, L: spaciousLens(c.L), S: roomy(s, api.Def{One: true})}
}

// The whole are with their spare room.
func wholeTree(t api.Tree) api.Tree {
	l := slices.Clone(t[:cap(t)])
	for i := range l {
		l[i].T = wholeTree(l[i].T)
	}
	return l
}

func wholeNames(n api.Names) api.Names { return api.Names{All: n.All, L: n.L[:cap(n.L)]} }

func wholeLens(l api.Lens) api.Lens {
	l.Kids = slices.Clone(l.Kids[:cap(l.Kids)])
	for i := range l.Kids {
		l.Kids[i] = wholeLens(l.Kids[i])
	}
	l.N, l.M, l.T, l.U = wholeNames(l.N), wholeNames(l.M), wholeTree(l.T), wholeTree(l.U)
	return l
}

func wholeConfig(c api.Config) string {
	s := slices.Clone(c.S[:cap(c.S)])
	for i := range s {
		s[i].Fields = slices.Clone(s[i].Fields[:cap(s[i].Fields)])
		for k := range s[i].Fields {
			s[i].Fields[k].N = wholeNames(s[i].Fields[k].N)
		}
	}
	return fmt.Sprintf("%d %+v %+v", c.Form, wholeLens(c.L), s)
}

// P2: what is handed in is not changed, its spare room neither, and spare room does not count.
func TestConfigHandedIn(t *testing.T) {
	d := &die{175}
	for range 1500 {
		x := d.thrown()
		c := spacious(x.c)
		was := wholeConfig(c)
		v, w := x.begun(), x.begun()
		if e, f := sync.Check(c), sync.Check(x.c); e != f {
			t.Fatalf("P2: Check: %v, not %v", e, f)
		}
		r, e := sync.Sync(v, c)
		s, f := sync.Sync(w, x.c)
		if e != f || answered(r) != answered(s) || told(v) != told(w) {
			t.Fatalf("P2: %v, %s, not %v, %s", e, answered(r), f, answered(s))
		}
		if wholeConfig(c) != was {
			t.Fatalf("P2: what was handed in: %s, not %s", wholeConfig(c), was)
		}
	}
}

// P2: what was handed in is not kept, and what is answered is new: it may be changed, its spare room too, with no harm.
func TestAnswersNew(t *testing.T) {
	c := viewed(1, filter("s", "t"))
	v := begun("a", "[s]\nk=2\nl=2\n[t]\n", "b", "[s]\nk=3\nl=3\n", "o", bytesOf(1, "[s]\nk=1\nl=1\n[t]\nm=1\n"))
	r, _ := sync.Sync(v, c)
	again, _ := sync.Sync(v, c)
	const want = "(shape s k, shape s l, gone t)"
	wanted(t, "P1702", "conflicts", answered(r), want)
	was := told(v)
	for i := range r.L {
		for k := range r.L {
			if i != k {
				_ = append(r.L[k].Path[:len(r.L[k].Path):cap(r.L[k].Path)], "spare")
			}
		}
		for k := range r.L[i].Path[:cap(r.L[i].Path)] {
			r.L[i].Path[:cap(r.L[i].Path)][k] = "changed"
		}
	}
	wanted(t, "P2", "the other answer", answered(again), want)
	c.L.N.L[0], c.S[0].Fields[0].To = "q", 3
	wanted(t, "P2", "the files", told(v), was)
	third, e := sync.Sync(v, viewed(1, filter("s", "t")))
	if e != api.OK || answered(third) != want {
		t.Errorf("P2: %v, %s", e, answered(third))
	}
}

// P2: of one answer no two lists share memory.
func TestListsApart(t *testing.T) {
	v := begun("a", "[s]\nk=2\nl=2\nm=2\n", "b", "[s]\nk=3\nl=3\nm=3\n", "o", bytesOf(1, "[s]\nk=1\nl=1\nm=1\n"))
	r, _ := sync.Sync(v, ini())
	if len(r.L) != 3 {
		t.Fatalf("P1702: %s", answered(r))
	}
	for i := range r.L {
		was := conflicts(append(slices.Clone(r.L[:i]), r.L[i+1:]...))
		for k := range r.L[i].Path {
			r.L[i].Path[k] = "changed"
		}
		_ = append(r.L[i].Path, "spare")
		wanted(t, "P2", "the other conflicts", conflicts(append(slices.Clone(r.L[:i]), r.L[i+1:]...)), was)
	}
}

// script is what many Syncs answer, and leave.
func script(seed uint64) string {
	d, s := &die{seed}, ""
	for range 12 {
		x, stop, room, _ := d.oddly()
		v := vfs.New(room)
		for _, f := range [][2]string{{"a", x.a}, {"b", x.b}, {"o", x.o}} {
			v.Write(f[0], []byte(f[1]))
		}
		v.Flush()
		v.Stop(stop)
		for range 2 {
			r, e := sync.Sync(v, x.c)
			s += e.Error() + answered(r) + told(v)
			v.Crash([]int{1, 2, 1})
			s += sync.Start(v).Error() + told(v)
		}
	}
	return s
}

// P3: the same calls answer the same, whichever side's work is done first.
func TestSame(t *testing.T) {
	for seed := range uint64(60) {
		was := runtime.GOMAXPROCS(1)
		want := script(seed)
		runtime.GOMAXPROCS(was)
		for range 3 {
			wanted(t, "P3", fmt.Sprint(seed), script(seed), want)
		}
	}
}

// P3, P6: where both sides have an error, it is a's, however often it is asked, and however long a's takes.
func TestSameError(t *testing.T) {
	slow := keys("x", "k", 190) + "?"
	for range 300 {
		refused(t, "a's", begun("a", slow, "b", "[x]\n[x]\n"), ini(), api.ErrLine)
		refused(t, "a's", begun("a", "[x]\n[x]\n", "b", slow), ini(), api.ErrTwice)
	}
}

// P7: several files, side by side, do not touch one another; the Config is one that all are handed.
func TestSideBySide(t *testing.T) {
	want := [4]string{}
	for i := range want {
		want[i] = script(uint64(i))
	}
	c := spacious(viewed(1, seq(filter("x", "y"), rename("x", "z"), mapped(filter("k")))))
	done := make(chan string)
	for i := range 8 {
		go func() {
			s := ""
			for range 4 {
				if got := script(uint64(i % 4)); got != want[i%4] {
					s = got
				}
				v := begun("a", "[x]\nk=1\nl=1\n[u]\n", "b", "[y]\nk=2\n")
				if r, e := sync.Sync(v, c); e != api.OK || answered(r) != "a b ()" || show(v, "b") != "[y]\nk=2\n[x]\nk=1\n" {
					s = told(v)
				}
			}
			done <- s
		}()
	}
	for range 8 {
		if s := <-done; s != "" {
			t.Errorf("P3, P7: %s", s)
		}
	}
}

// P1: what Sync begins has ended when it answers: nothing is left that waits, whatever it answered.
func TestNothingLeft(t *testing.T) {
	was := runtime.NumGoroutine()
	for seed := range uint64(20) {
		script(seed)
	}
	for range 200 {
		if runtime.NumGoroutine() <= was {
			return
		}
		time.Sleep(5 * time.Millisecond)
	}
	t.Errorf("P1: %d goroutines are left, there were %d", runtime.NumGoroutine(), was)
}
