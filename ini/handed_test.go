package ini_test

import (
	"fmt"
	"math/rand"
	"strings"
	"testing"

	"cadence/api"
	"cadence/ini"
	"cadence/tree"
)

// roomy is t with spare room behind each list, in which something stands.
func roomy(t api.Tree) api.Tree {
	l := make(api.Tree, 0, len(t)+2)
	for _, x := range t {
		l = append(l, e(x.Name, roomy(x.T)...))
	}
	return append(l, k("a", "spare"), e("spare", k("k", "room")))[:len(t)]
}

// written is all that a tree's memory holds, its spare room too.
func written(t api.Tree) string {
	var s strings.Builder
	for i, x := range t[:cap(t)] {
		fmt.Fprintf(&s, "%t %q(%s)", i < len(t), x.Name, written(x.T))
	}
	return s.String()
}

// lists are all lists of t, its own too.
func lists(t api.Tree) []api.Tree {
	l := []api.Tree{t}
	for _, x := range t {
		l = append(l, lists(x.T)...)
	}
	return l
}

// shares tells whether two of the lists have memory in common: each is written over wholly, and then looked at again.
func shares(l []api.Tree) bool {
	for i, t := range l {
		for j := range t[:cap(t)] {
			t[:cap(t)][j] = e(fmt.Sprint("list ", i))
		}
	}
	for i, t := range l {
		for _, x := range t[:cap(t)] {
			if x.Name != fmt.Sprint("list ", i) {
				return true
			}
		}
	}
	return false
}

// someTrees fit, or do not.
func someTrees() []api.Tree {
	return []api.Tree{nil, {e("a")}, {e("a", k("k", "v"), k("l", ""), k("m", "v")), e("b"), e("c", k("k", "w"))}, {e("a", e("k"))}, {e("a ", k("k", "v"))}, {e("a", k("k", "v")), e("a")}, {e("a", e("k", e("v", e("x"))))}, {e("a", k("k", x(81)))}}
}

func someFiles() []string {
	return []string{"", "[a]", ";r\r\n[a]\nk = v\nz=1\n\n[d]\nk=v\n;s", "[c]\n[b]\n[a]\nm=\nl=2\n", "k=v", "[a]\n[a]"}
}

// P2, P3: a tree that is handed in stays as it is, its spare room too, which does not count; the same calls answer the same.
func TestHandedIn(t *testing.T) {
	for i, plain := range someTrees() {
		x := roomy(plain)
		was := written(x)
		if ini.Fits(x) != ini.Fits(plain) || ini.Fits(x) != ini.Fits(plain) {
			t.Errorf("P2, P3: %d: Fits", i)
		}
		for _, s := range someFiles() {
			want, err := ini.Put(plain, s)
			for range 2 {
				if got, again := ini.Put(x, s); got != want || again != err {
					t.Errorf("P2, P3: %d into %q: %q, %v, not %q, %v", i, s, got, again, want, err)
				}
			}
		}
		want, err := ini.Create(plain)
		if got, again := ini.Create(x); got != want || again != err {
			t.Errorf("P2, P3: %d created: %q, %v, not %q, %v", i, got, again, want, err)
		}
		if written(x) != was {
			t.Errorf("P2: %d is changed", i)
		}
	}
}

// P2: a list that stands in a tree twice is one as any other.
func TestListTwice(t *testing.T) {
	value := roomy(api.Tree{e("v")})
	keys := roomy(api.Tree{{Name: "k", T: value}, {Name: "l", T: value}})
	x := api.Tree{{Name: "a", T: keys}, {Name: "b", T: keys}}
	if got, err := ini.Put(x, "[b]\nl=w\n"); got != "[b]\nl=v\nk=v\n[a]\nk=v\nl=v\n" || err != api.OK {
		t.Errorf("P2, P603: %q, %v", got, err)
	}
}

// P2, P3: Load answers new memory each time, and no two lists share any.
func TestNewMemory(t *testing.T) {
	for _, s := range []string{"", "[a]", "[b]\nk=v\nl=v\nm=v\n[a]\nk=v\n[c]\n", "[b]\nz=\ny=\nx=1\nw=1\n[a]\nd=\nc=\n[c]\nb=v", "[a]\n" + keys(199)} {
		one, _, _ := ini.Load(s)
		two, _, _ := ini.Load(s)
		want := tree.Text(two)
		if tree.Text(one) != want {
			t.Errorf("P3: Load(%.30q)", s)
		}
		if shares(append(lists(one), lists(two)...)) {
			t.Errorf("P2: what Load(%.30q) answers shares memory", s)
		}
		if three, _, _ := ini.Load(s); tree.Text(three) != want {
			t.Errorf("P2, P3: Load(%.30q) is another one behind a change of its answer", s)
		}
	}
}

// P2: no list and an empty one are the same.
func TestEmptyLists(t *testing.T) {
	for _, x := range []api.Tree{{{Name: "a"}, {Name: "b", T: api.Tree{{Name: "k", T: api.Tree{{Name: "v"}}}}}}, {{Name: "a", T: api.Tree{}}, {Name: "b", T: api.Tree{{Name: "k", T: api.Tree{{Name: "v", T: api.Tree{}}}}}}}} {
		if got, err := ini.Put(x, "[b]\n"); got != "[b]\nk=v\n[a]\n" || err != api.OK || ini.Fits(x) != api.OK {
			t.Errorf("P2: %q, %v", got, err)
		}
	}
	for _, below := range []api.Tree{nil, {}} {
		if err := ini.Fits(api.Tree{{Name: "a", T: api.Tree{{Name: "k", T: below}}}}); err != api.ErrFit {
			t.Errorf("P2: %v", err)
		}
		if got, err := ini.Put(below, "[a]\n;"); got != ";" || err != api.OK || ini.Fits(below) != api.OK {
			t.Errorf("P2: %q, %v", got, err)
		}
	}
}

// P1, P602: trees too deep and too wide end with tree.Check's error, and stay.
func TestTreesTooGreat(t *testing.T) {
	var wide, deep api.Tree
	for i := range 65536 {
		wide = append(wide, k(fmt.Sprintf("%05d", i), "v"))
	}
	for range 65536 {
		deep = api.Tree{e("d", deep...)}
	}
	for i, want := range []api.Errno{api.ErrMany, api.ErrDeep, api.ErrLong, api.ErrLong, api.ErrLong} {
		x := []api.Tree{wide, deep, {e(x(1 << 20))}, {e("a", k(x(1<<20), "v"))}, {e("a", k("k", x(1<<20)))}}[i]
		was := tree.Bytes(x)
		if err := ini.Fits(x); err != want {
			t.Errorf("P1, P602: %d: %v, not %v", i, err, want)
		}
		if got, err := ini.Put(x, "[a]\nk=v"); got != "" || err != want {
			t.Errorf("P1, P603: %d: %q, %v, not %v", i, got, err, want)
		}
		if got, err := ini.Create(x); got != "" || err != want {
			t.Errorf("P1, P603: %d: %q, %v, not %v", i, got, err, want)
		}
		if string(tree.Bytes(x)) != string(was) {
			t.Errorf("P2: %d is changed", i)
		}
	}
}

// P1: files of any bytes end, greater ones too; P4: beside an error there is nothing.
func TestAnyBytes(t *testing.T) {
	r := rand.New(rand.NewSource(8))
	for range 3000 {
		s := make([]byte, r.Intn(60))
		for i := range s {
			s[i] = "[]=;# \t\r\n\n\nab\x00\xff"[r.Intn(15)]
		}
		sameLoad(t, string(s))
		got, err := ini.Put(nil, string(s))
		if _, _, want := ini.Load(string(s)); err != want || err != api.OK && got != "" {
			t.Fatalf("P4, P603: %q: %q, %v, not %v", s, got, err, want)
		}
	}
	for _, s := range []string{"[", "=", "\r", "\n", ";", " ", "[a]\n", "k=v\n", "\xff"} {
		refused(t, strings.Repeat(s, 1<<20), 0, api.ErrLong)
	}
}
