package card_test

import (
	"fmt"
	"math/rand"
	"strings"
	"testing"

	"cadence/api"
	"cadence/card"
	"cadence/tree"
)

// roomy is t with spare room behind each list, in which something stands.
func roomy(t api.Tree) api.Tree {
	l := make(api.Tree, 0, len(t)+2)
	for _, x := range t {
		l = append(l, e(x.Name, roomy(x.T)...))
	}
	return append(l, e("props", p("N", "spare")), e("spare", b("room", nil, nil)))[:len(t)]
}

// written is all that a tree's memory holds, its spare room too.
func written(t api.Tree) string {
	var s strings.Builder
	for i, x := range t[:cap(t)] {
		fmt.Fprintf(&s, "%t %q(%s)", i < len(t), x.Name, written(x.T))
	}
	return s.String()
}

// lists are all lists of t, its own too.
func lists(t api.Tree) []api.Tree {
	l := []api.Tree{t}
	for _, x := range t {
		l = append(l, lists(x.T)...)
	}
	return l
}

// shares tells whether two of the lists have memory in common: each is written over wholly, and then looked at again.
func shares(l []api.Tree) bool {
	for i, t := range l {
		for j := range t[:cap(t)] {
			t[:cap(t)][j] = e(fmt.Sprint("list ", i))
		}
	}
	for i, t := range l {
		for _, x := range t[:cap(t)] {
			if x.Name != fmt.Sprint("list ", i) {
				return true
			}
		}
	}
	return false
}

// someTrees fit, or do not.
func someTrees() []api.Tree {
	n := api.Tree{p("M", "1", "2"), p("N", "")}
	return []api.Tree{nil, c(), c(n...), {e("A", b("x", api.Tree{e("B", b("y", c(n...), n))}, n), b("y", nil, nil)), e("B", b("x", nil, n))}, {e("A")}, c(p("N")), c(p("ID", "x")), inside(inside(c())[1])[2], {e("A", e("x", e("props")))}, {e("B", b("x", nil, nil)), e("A", b("x", nil, nil))}, c(p("N", x(81)))}
}

func someFiles() []string {
	return []string{"", "\r\n", one("A", "x"), one("A", "x", "\n", "N:\n", "N:1\n", one("B", "y", "M:2\n", one("C", "z")), " \n") + "\n" + one("A", "z"), strings.ReplaceAll(one("B", "x", "M:2\n", one("A", "x")), "\n", "\r\n") + "\t", "x", "BEGIN:A\nID:x", one("A", "x") + one("A", "x")}
}

// P2, P3: a tree that is handed in stays as it is, its spare room too, which does not count; the same calls answer the same.
func TestHandedIn(t *testing.T) {
	for i, plain := range someTrees() {
		x := roomy(plain)
		was := written(x)
		if card.Fits(x) != card.Fits(plain) || card.Fits(x) != card.Fits(plain) {
			t.Errorf("P2, P3: %d: Fits", i)
		}
		for _, s := range someFiles() {
			want, err := card.Put(plain, s)
			for range 2 {
				if got, again := card.Put(x, s); got != want || again != err {
					t.Errorf("P2, P3: %d into %q: %q, %v, not %q, %v", i, s, got, again, want, err)
				}
			}
		}
		want, err := card.Create(plain)
		if got, again := card.Create(x); got != want || again != err {
			t.Errorf("P2, P3: %d created: %q, %v, not %q, %v", i, got, again, want, err)
		}
		if written(x) != was {
			t.Errorf("P2: %d is changed", i)
		}
	}
}

// P2: a list that stands in a tree twice is one as any other.
func TestListTwice(t *testing.T) {
	props := roomy(api.Tree{p("N", "1")})
	in := roomy(api.Tree{{Name: "blocks"}, {Name: "props", T: props}})
	ids := roomy(api.Tree{{Name: "x", T: in}, {Name: "y", T: in}})
	x := api.Tree{{Name: "A", T: ids}, {Name: "B", T: api.Tree{{Name: "x", T: api.Tree{{Name: "blocks", T: api.Tree{{Name: "A", T: ids}}}, {Name: "props", T: props}}}}}}
	n := "N:1\n"
	if got, err := card.Put(x, one("B", "x", one("A", "y"))); got != one("B", "x", n, one("A", "y", n), one("A", "x", n))+one("A", "x", n)+one("A", "y", n) || err != api.OK {
		t.Errorf("P2, P803: %q, %v", got, err)
	}
}

// P2, P3: Load answers new memory each time, and no two lists share any.
func TestNewMemory(t *testing.T) {
	three := one("B", "y", "N:2\n", "M:1\n", "N:1\n", one("C", "z", "Z:\n", "A:\n"), "M:0\n", one("C", "a"), one("B", "x"))
	for _, s := range []string{"", " ", one("A", "x"), one("A", "x") + one("A", "y") + one("A", "a"), one("A", "x", three, "N:1\n", one("B", "x")), three + one("A", "x", three), heap(395)} {
		first, _, _ := card.Load(s)
		second, _, _ := card.Load(s)
		want := tree.Text(second)
		if tree.Text(first) != want {
			t.Errorf("P3: Load(%.30q)", s)
		}
		if shares(append(lists(first), lists(second)...)) {
			t.Errorf("P2: what Load(%.30q) answers shares memory", s)
		}
		if third, _, _ := card.Load(s); tree.Text(third) != want {
			t.Errorf("P2, P3: Load(%.30q) is another one behind a change of its answer", s)
		}
	}
}

// P2: no list and an empty one are the same.
func TestEmptyLists(t *testing.T) {
	for _, no := range []api.Tree{nil, {}} {
		x := api.Tree{{Name: "A", T: api.Tree{{Name: "x", T: api.Tree{{Name: "blocks", T: no}, {Name: "props", T: api.Tree{{Name: "N", T: api.Tree{{Name: "1", T: no}}}}}}}, {Name: "y", T: api.Tree{{Name: "blocks", T: no}, {Name: "props", T: no}}}}}}
		if got, err := card.Put(x, one("A", "x", "M:1\n", one("A", "x"))); got != one("A", "x", "N:1\n")+one("A", "y") || err != api.OK || card.Fits(x) != api.OK {
			t.Errorf("P2: %q, %v", got, err)
		}
		for i, x := range []api.Tree{{{Name: "A", T: no}}, {{Name: "A", T: api.Tree{{Name: "x", T: no}}}}, c(api.Edge{Name: "N", T: no})} {
			if err := card.Fits(x); err != api.ErrFit {
				t.Errorf("P2: %d: %v", i, err)
			}
		}
		if got, err := card.Put(no, one("A", "x")+" "); got != " " || err != api.OK || card.Fits(no) != api.OK {
			t.Errorf("P2: %q, %v", got, err)
		}
	}
}

// P1, P802: trees too deep and too wide end with tree.Check's error, and stay.
func TestTreesTooGreat(t *testing.T) {
	var wide, values, deep, blocks api.Tree
	for i := range 65536 {
		wide = append(wide, e(fmt.Sprintf("%05d", i)))
		values = append(values, e(fmt.Sprintf("%05d", i)))
	}
	for range 65536 {
		deep = api.Tree{e("d", deep...)}
	}
	for range 16384 {
		blocks = api.Tree{e("A", b("x", blocks, nil))}
	}
	for i, want := range []api.Errno{api.ErrMany, api.ErrMany, api.ErrDeep, api.ErrDeep, api.ErrLong, api.ErrLong, api.ErrLong} {
		x := []api.Tree{wide, c(e("N", values[:65531]...)), deep, blocks, {e(x(1 << 20))}, {e("A", b(x(1<<20), nil, nil))}, c(p("N", x(1<<20)))}[i]
		was := tree.Bytes(x)
		if err := card.Fits(x); err != want {
			t.Errorf("P1, P802: %d: %v, not %v", i, err, want)
		}
		if got, err := card.Put(x, one("A", "x", "N:1\n")); got != "" || err != want {
			t.Errorf("P1, P803: %d: %q, %v, not %v", i, got, err, want)
		}
		if got, err := card.Create(x); got != "" || err != want {
			t.Errorf("P1, P803: %d: %q, %v, not %v", i, got, err, want)
		}
		if string(tree.Bytes(x)) != string(was) {
			t.Errorf("P2: %d is changed", i)
		}
	}
}

// P1: files of any bytes end, greater ones too; P4: beside an error there is nothing.
func TestAnyBytes(t *testing.T) {
	r := rand.New(rand.NewSource(8))
	for range 3000 {
		var s strings.Builder
		for range r.Intn(30) {
			s.WriteString(pick(r, []string{"BEGIN:", "END:", "ID:", "A", "N", ":", "\\", "n", "\n", "\n", "\r\n", "\r", " ", "x", "\x00", "\xff"}))
		}
		for _, s := range []string{s.String(), "BEGIN:A\n" + s.String(), one("A", "x") + s.String(), "BEGIN:A\nID:x\nN:" + s.String() + "\nEND:A"} {
			sameLoad(t, s)
			got, err := card.Put(nil, s)
			if _, _, want := card.Load(s); err != want || err != api.OK && got != "" {
				t.Fatalf("P4, P803: %q: %q, %v, not %v", s, got, err, want)
			}
		}
	}
	for _, s := range []string{"\\", ":", "\r", "\n", "x", " ", "BEGIN:A\n", "END:A\n", "N:1\n", "\xff"} {
		refused(t, strings.Repeat(s, 1<<20), 0, api.ErrLong)
		refused(t, "BEGIN:A\nID:"+strings.Repeat(s, 1<<20), 0, api.ErrLong)
	}
}
