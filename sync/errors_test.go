package sync_test

import (
	"fmt"
	"strings"
	"testing"

	"cadence/api"
	"cadence/sync"
	"cadence/tree"
	"cadence/vfs"
)

// refused holds that Sync answers that error, and that nothing is done then, nor told.
func refused(t *testing.T, what string, v *vfs.Vfs, c api.Config, want api.Errno) {
	t.Helper()
	was := told(v)
	r, e := sync.Sync(v, c)
	if e != want || told(v) != was {
		t.Errorf("P1702: %s: %v, not %v: %.300s", what, e, want, told(v))
	}
	if r.A || r.B || len(r.L) != 0 {
		t.Errorf("P4: %s: %s", what, answered(r))
	}
}

// plunged sees the section x, three edges deeper; of that the key k alone fits.
func plunged() api.Config {
	below := func(name string) api.Def {
		return api.Def{Fields: []api.Field{{N: names(name), To: map[string]int{"r": 1, "q": 2, "p": 3, "k": 4}[name]}}}
	}
	l := seq(api.Lens{Op: api.LHoist, A: "x"}, api.Lens{Op: api.LPlunge, A: "p"}, api.Lens{Op: api.LPlunge, A: "q"}, api.Lens{Op: api.LPlunge, A: "r"})
	return viewed(api.FIni, l, api.Schema{below("r"), below("q"), below("p"), below("k"), {Fields: []api.Field{{N: but(), To: 4}}}})
}

// faults are files that are in step, and such as have an error, by its step; of each step there are two errors, where there may be.
func faults() map[string][2]string {
	many := "[x]\nk=\n" + strings.TrimPrefix(keys("x", "k", 198), "[x]\n")
	return map[string][2]string{
		"fine": {"[x]\nk=1\n", "[x]\nk=1\n"},
		"none": {},
		"load": {"?", "[x]\n[x]\n"},
		"get":  {"[y]\nq=1\n", many},
		"fit":  {"[x]\nq=1\n", "[x]\nk=1\nl=1\n"},
	}
}

// P1702, P6: which error is told, where there are several, ahead of the merge; nothing is done then.
func TestErrorsInOrder(t *testing.T) {
	first := func(a, b, o string, flip bool) api.Errno {
		codes := map[string][2]api.Errno{"load": {api.ErrLine, api.ErrTwice}, "get": {api.ErrKind, api.ErrMany}, "fit": {api.ErrFit, api.ErrFit}}
		for _, step := range []string{"none", "load", "get", "fit"} {
			of := codes[step]
			if flip {
				of[0], of[1] = of[1], of[0]
			}
			switch {
			case step == "none" && (a == step || b == step):
				return api.ErrNone
			case a == step:
				return of[0]
			case b == step:
				return of[1]
			}
		}
		if o == "\x01" {
			return api.ErrCut
		}
		return api.OK
	}
	for a, fa := range faults() {
		for b, fb := range faults() {
			for _, o := range []string{"none", string(tree.Bytes(api.Tree{e("r", e("q", e("p", e("k", e("1")))))})), "\x01"} {
				for _, flip := range []bool{false, true} {
					of := map[bool]int{true: 1}[flip]
					l := []string{"a", fa[of], "b", fb[1-of], "o", o}
					v := vfs.New(20000)
					for i, gone := range []bool{a == "none", b == "none", o == "none"} {
						if !gone {
							v.Write(l[2*i], []byte(l[2*i+1]))
						}
					}
					v.Flush()
					want := first(a, b, o, flip)
					bad := plunged()
					bad.L.Kids = nil
					refused(t, "a lens that may not be", v, bad, api.ErrArg)
					if want != api.OK {
						refused(t, a+", "+b, v, plunged(), want)
					} else if r, e := sync.Sync(v, plunged()); e != api.OK || answered(r) != "()" {
						t.Errorf("P1702: %s, %s: %v, %s", a, b, e, answered(r))
					}
					refused(t, "without power", dead(v), plunged(), api.ErrDead)
					refused(t, "a lens that may not be", v, bad, api.ErrArg)
				}
			}
		}
	}
}

// P1702: files of each form that are none.
func TestNoFiles(t *testing.T) {
	long := strings.Repeat("\n", 4001)
	for i, x := range []struct {
		form int
		good string
		bad  string
		want api.Errno
	}{
		{1, "", "k=1\n", api.ErrLine}, {1, "", "[x]\n[x]", api.ErrTwice}, {1, "", long, api.ErrLong}, {1, "", keys("x", "k", 200), api.ErrMany},
		{2, "key\n", "", api.ErrNone}, {2, "key\n", "id\n", api.ErrLine}, {2, "key\n", "key,k,k\n", api.ErrTwice}, {2, "key\n", long, api.ErrLong},
		{3, "", "BEGIN:C\n", api.ErrLine}, {3, "", strings.Repeat("BEGIN:C\nID:x\n", 4), api.ErrDeep}, {3, "", long, api.ErrLong},
		{4, page("", ""), "", api.ErrNone}, {4, page("", ""), "<!MARKS>\n", api.ErrLine}, {4, page("", ""), long, api.ErrLong},
	} {
		for _, l := range [][]string{{"a", x.good, "b", x.bad}, {"a", x.bad, "b", x.good}, {"a", x.bad, "b", x.bad}} {
			for _, o := range []string{"\x00\x00", "bad"} {
				refused(t, "form "+string(rune('0'+x.form))+", "+string(rune('0'+i)), begun(append(l, "o", o)...), api.Config{Form: x.form}, x.want)
			}
		}
	}
}

// P1702: archives that are none; the first error is tree.Parse's.
func TestNoArchive(t *testing.T) {
	for _, o := range []string{"", "\x00", "\x01\x00", "\x01\x00\x01\x00", "\x00\x00\x00", "{}", "\x02\x00\x01\x00b\x00\x00\x01\x00a\x00\x00", "\x01\x00\x51\x00" + strings.Repeat("n", 81) + "\x00\x00", strings.Repeat("\x01\x00\x01\x00a", 13) + "\x00\x00", strings.Repeat("x", 9000)} {
		_, want := tree.Parse([]byte(o))
		for _, l := range [][]string{{"a", "", "b", ""}, {"a", "[x]\n", "b", ""}, {"a", keys("x", "a", 120), "b", keys("x", "b", 120)}} {
			refused(t, o, begun(append(l, "o", o)...), ini(), want)
		}
		if want == api.OK {
			t.Errorf("the test's own: %q", o)
		}
	}
}

// hiding sees of each section all keys but k; of a section that it does not know it cannot make one.
func hiding() api.Config {
	return viewed(api.FIni, mapped(fork(names("k"), names(), is(nil, api.Tree{e("z")}), id())))
}

// P1702, P6: what cannot be put back, of a ahead of b. Each of the two has all its errors ahead of the other one's.
func TestErrorsBack(t *testing.T) {
	blank := strings.Repeat("\n", 3990)
	two := viewed(api.FIni, id(), free())
	made := viewed(api.FIni, mapped(is(nil, api.Tree{e("d")})))
	bare := viewed(api.FIni, mapped(fork(names("k"), names(), is(nil, api.Tree{e("k")}), id())))
	for _, x := range []struct {
		what    string
		c       api.Config
		a, b, o string
		want    api.Errno
	}{
		{"lens.Put of both", ini(), keys("x", "a", 120), keys("x", "b", 120), "none", api.ErrMany}, {"files.Put of a", ini(), blank, "[x]\nkk=111\n", "none", api.ErrLong}, {"files.Put of b", ini(), "[x]\nkk=111\n", blank, "none", api.ErrLong},
		{"files.Put of both", two, "[s]\nk=2\n", "[s]\nk=3\n", "[s]\nk=1\n", api.ErrFit}, {"files.Put of a", made, "", "[s]\n", "none", api.ErrFit}, {"files.Put of b", made, "[s]\n", "", "none", api.ErrFit},
		{"lens.Put of a", hiding(), "[s]\nk=1\n", "[s]\nk=2\n[t]\n", "none", api.ErrKind}, {"lens.Put of b", hiding(), "[s]\nk=2\n[t]\n", "[s]\nk=1\n", "none", api.ErrKind},
		{"lens.Put of a, files.Put of b", hiding(), "[s]\nl=1\n", "[s]\n" + blank + "[t]", "[s]\n", api.ErrKind}, {"files.Put of a, lens.Put of b", hiding(), "[s]\n" + blank + "[t]", "[s]\nl=1\n", "[s]\n", api.ErrLong},
		{"files.Put of a, ErrFit, of b, ErrLong", bare, "[s]\nl=1\n", "[s]\n" + blank + "[t]", "[s]\n", api.ErrFit}, {"files.Put of a, ErrLong, of b, ErrFit", bare, "[s]\n" + blank + "[t]", "[s]\nl=1\n", "[s]\n", api.ErrLong},
	} {
		l := []string{"a", x.a, "b", x.b}
		if x.o != "none" {
			l = append(l, "o", string(tree.Bytes(seen(t, x.c, x.o))))
		}
		for _, room := range []int{40000, len(strings.Join(l, ""))} {
			refused(t, x.what, roomFor(room, l...), x.c, x.want)
		}
	}
}

// edges are n beside each other, of which each has a name so long, with nothing below it.
func edges(n, long int) api.Tree {
	var t api.Tree
	for i := range n {
		t = append(t, e(fmt.Sprintf("%03d", i)+strings.Repeat("n", long-3)))
	}
	return t
}

// P1702: the archive keeps its own at a conflict, and takes what both have elsewhere: it may be too great then, though neither view is. Up to 400 edges it is not.
func TestArchiveTooGreat(t *testing.T) {
	y := keys("y", "k", 60) // 121 edges
	for n, want := range map[int]api.Errno{277: api.OK, 278: api.OK, 279: api.ErrMany, 399: api.ErrMany} {
		o := string(tree.Bytes(api.Tree{e("z", edges(n, 3)...)}))
		v := begun("a", y, "b", y+"[z]\nk=1\n", "o", o)
		if want != api.OK {
			refused(t, "the archive", v, ini(), want)
			refused(t, "the archive, no room", roomFor(len(y)+len(y)+8+len(o), "a", y, "b", y+"[z]\nk=1\n", "o", o), ini(), want)
			continue
		}
		r, e := sync.Sync(v, ini())
		if e != api.OK || answered(r) != "(gone z)" || show(v, "a") != y || show(v, "b") != y+"[z]\nk=1\n" {
			t.Errorf("P1702: %d: %v, %s", n, e, answered(r))
		}
		x, _ := tree.Parse([]byte(show(v, "o")))
		if tree.Size(x) != n+122 {
			t.Errorf("P1702: %d: %d edges", n, tree.Size(x))
		}
	}
}

// P1702: commit.Commit's error, where the archive has more than 8000 bytes; one that is so already, and stays, has none.
func TestArchiveTooLong(t *testing.T) {
	for more, want := range map[int]api.Errno{-1: api.OK, 0: api.OK, 1: api.ErrLong, 9: api.ErrLong} {
		z := edges(98, 77)
		z = append(z, e("z"))
		o := func() []byte { return tree.Bytes(api.Tree{e("y"), e("z", z...)}) }
		z[98].Name += strings.Repeat("z", 8000-len(o())+more)
		if len(o()) != 8000+more || len(z[98].Name) > 80 {
			t.Fatalf("the test's own: %d bytes, %d", len(o()), len(z[98].Name))
		}
		v := begun("a", "[y]\n", "b", "[y]\n[z]\nk=1\n", "o", string(tree.Bytes(api.Tree{e("z", z...)})))
		if want != api.OK {
			refused(t, "the archive", v, ini(), want)
		} else if r, e := sync.Sync(v, ini()); e != api.OK || answered(r) != "(gone z)" || show(v, "o") != string(o()) {
			t.Errorf("P1702: %d: %v, %s", more, e, answered(r))
		}
		v = begun("a", "[y]\n", "b", "[y]\n[z]\nk=1\n", "o", string(o()))
		was := told(v)
		if r, e := sync.Sync(v, ini()); e != api.OK || answered(r) != "(gone z)" || told(v) != was {
			t.Errorf("P1702: %d: %v, %s", more, e, answered(r))
		}
	}
}

// P1702: commit.Commit's error, where there is no room: just as much as it asks for is enough.
func TestNoRoom(t *testing.T) {
	for _, x := range []struct{ a, b, o, a2, b2, o2 string }{
		{"[x]\ny=1\n", "", "none", "[x]\ny=1\n", "[x]\ny=1\n", "[x]\ny=1\n"}, {"", "", "none", "", "", ""}, {"[x]\n", "[x]\ny=1\n", "[x]\ny=1\n", "[x]\n", "[x]\n", "[x]\n"}, {"[x]\ny=1\n", "[x]\nz=2\n", "[x]\n", "[x]\ny=1\nz=2\n", "[x]\nz=2\ny=1\n", "[x]\ny=1\nz=2\n"},
	} {
		l, need := []string{}, 1
		add := func(name, was, is string) {
			if was != "none" {
				l = append(l, name, was)
				need += len(was)
			} else {
				was = ""
			}
			if was != is {
				need += 2 + len(name) + 2 + len(is) + max(len(is)-len(was), 0)
			}
		}
		add("a", x.a, x.a2)
		add("b", x.b, x.b2)
		o := x.o
		if o != "none" {
			o = bytesOf(1, o)
		}
		add("o", o, bytesOf(1, x.o2))
		v := roomFor(need, l...)
		if _, e := sync.Sync(v, ini()); e != api.OK || show(v, "a") != x.a2 || show(v, "b") != x.b2 || show(v, "o") != bytesOf(1, x.o2) {
			t.Errorf("P1702: %d: %v: %s", need, e, told(v))
		}
		refused(t, "one byte less", roomFor(need-1, l...), ini(), api.ErrFull)
	}
}

// P5: an error leaves what was not flushed as it was, not flushed, and a Stop as it was set.
func TestErrorsChangeNothing(t *testing.T) {
	for _, x := range [][2]string{{"?", ""}, {"", "?"}, {keys("x", "a", 120), keys("x", "b", 120)}, {strings.Repeat("\n", 3999), "[x]\n"}} {
		for _, keep := range keeps(3) {
			v, w := begun("o", "\x00\x00"), begun("o", "\x00\x00")
			for _, u := range []*vfs.Vfs{v, w} {
				u.Write("a", []byte(x[0]))
				u.Write("b", []byte(x[1]))
				u.Write("c", []byte("1"))
				u.Stop(2)
			}
			refuse := told(w)
			if _, e := sync.Sync(v, ini()); e == api.OK || told(v) != refuse {
				t.Errorf("P5: %.20q: %v", x, e)
			}
			if v.Remove("c") != w.Remove("c") || v.Flush() != api.ErrDead || w.Flush() != api.ErrDead {
				t.Errorf("P5: %.20q: a Stop", x)
			}
			v.Crash(keep)
			w.Crash(keep)
			wanted(t, "P5", "behind a crash", told(v), told(w))
		}
	}
}

// P1, P1702: files that vfs.New did not make are none.
func TestNotMade(t *testing.T) {
	refused(t, "not made", &vfs.Vfs{}, ini(), api.ErrNone)
	if e := sync.Start(&vfs.Vfs{}); e != api.OK {
		t.Errorf("P1701: %v", e)
	}
}
