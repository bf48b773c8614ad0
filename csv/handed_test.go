package csv_test

import (
	"fmt"
	"math/rand"
	"strings"
	"testing"

	"cadence/api"
	"cadence/csv"
	"cadence/tree"
)

// roomy is t with spare room behind each list, in which something stands.
func roomy(t api.Tree) api.Tree {
	l := make(api.Tree, 0, len(t)+2)
	for _, x := range t {
		l = append(l, e(x.Name, roomy(x.T)...))
	}
	return append(l, c("a", "spare"), e("spare", c("c", "room")))[:len(t)]
}

// written is all that a tree's memory holds, its spare room too.
func written(t api.Tree) string {
	var s strings.Builder
	for i, x := range t[:cap(t)] {
		fmt.Fprintf(&s, "%t %q(%s)", i < len(t), x.Name, written(x.T))
	}
	return s.String()
}

// lists are all lists of t, its own too.
func lists(t api.Tree) []api.Tree {
	l := []api.Tree{t}
	for _, x := range t {
		l = append(l, lists(x.T)...)
	}
	return l
}

// shares tells whether two of the lists have memory in common: each is written over wholly, and then looked at again.
func shares(l []api.Tree) bool {
	for i, t := range l {
		for j := range t[:cap(t)] {
			t[:cap(t)][j] = e(fmt.Sprint("list ", i))
		}
	}
	for i, t := range l {
		for _, x := range t[:cap(t)] {
			if x.Name != fmt.Sprint("list ", i) {
				return true
			}
		}
	}
	return false
}

// someTrees fit, or do not.
func someTrees() []api.Tree {
	return []api.Tree{nil, {e("x")}, {e("x", c("a", "1"), c("b", ","), c("c", "1")), e("y"), e("z", c("a", "2"), c("d", "3"))}, {e("x", e("a"))}, {e("x\n", c("a", "1"))}, {e("x", c("a", "1")), e("x")}, {e("x", e("a", e("1", e("2"))))}, {e("x", c("a", x(81)))}}
}

func someFiles() []string {
	return []string{"key", "key\n", "key,b,\"a\"\r\nz,,\"1\"\nx,\",\",1\n", "key,c\ny,1\nx,\"\"\nw,2", "", "key,a\nx", "key\nx\nx"}
}

// P2, P3: a tree that is handed in stays as it is, its spare room too, which does not count; the same calls answer the same.
func TestHandedIn(t *testing.T) {
	for i, plain := range someTrees() {
		x := roomy(plain)
		was := written(x)
		if csv.Fits(x) != csv.Fits(plain) || csv.Fits(x) != csv.Fits(plain) {
			t.Errorf("P2, P3: %d: Fits", i)
		}
		for _, s := range someFiles() {
			want, err := csv.Put(plain, s)
			for range 2 {
				if got, again := csv.Put(x, s); got != want || again != err {
					t.Errorf("P2, P3: %d into %q: %q, %v, not %q, %v", i, s, got, again, want, err)
				}
			}
		}
		want, err := csv.Create(plain)
		if got, again := csv.Create(x); got != want || again != err {
			t.Errorf("P2, P3: %d created: %q, %v, not %q, %v", i, got, again, want, err)
		}
		if written(x) != was {
			t.Errorf("P2: %d is changed", i)
		}
	}
}

// P2: a list that stands in a tree twice is one as any other.
func TestListTwice(t *testing.T) {
	value := roomy(api.Tree{e("1")})
	below := roomy(api.Tree{{Name: "a", T: value}, {Name: "b", T: value}})
	x := api.Tree{{Name: "x", T: below}, {Name: "y", T: below}}
	if got, err := csv.Put(x, "key,b\ny,2\n"); got != "key,b,a\ny,1,1\nx,1,1\n" || err != api.OK {
		t.Errorf("P2, P703: %q, %v", got, err)
	}
}

// P2, P3: Load answers new memory each time, and no two lists share any.
func TestNewMemory(t *testing.T) {
	for _, s := range []string{"key", "key,a\n", "key\nx", "key,b,a\ny,1,1\nx,1,\"1\"\nz,1,1\n", "key,d,c,b,a\nx,4,3,2,1\nw,,,,\nv,1,,,1\n", "key,a\n" + full(133)} {
		one, _, _ := csv.Load(s)
		two, _, _ := csv.Load(s)
		want := tree.Text(two)
		if tree.Text(one) != want {
			t.Errorf("P3: Load(%.30q)", s)
		}
		if shares(append(lists(one), lists(two)...)) {
			t.Errorf("P2: what Load(%.30q) answers shares memory", s)
		}
		if three, _, _ := csv.Load(s); tree.Text(three) != want {
			t.Errorf("P2, P3: Load(%.30q) is another one behind a change of its answer", s)
		}
	}
}

// P2: no list and an empty one are the same.
func TestEmptyLists(t *testing.T) {
	for _, x := range []api.Tree{{{Name: "x"}, {Name: "y", T: api.Tree{{Name: "a", T: api.Tree{{Name: "1"}}}}}}, {{Name: "x", T: api.Tree{}}, {Name: "y", T: api.Tree{{Name: "a", T: api.Tree{{Name: "1", T: api.Tree{}}}}}}}} {
		if got, err := csv.Put(x, "key\ny\n"); got != "key,a\ny,1\nx,\n" || err != api.OK || csv.Fits(x) != api.OK {
			t.Errorf("P2: %q, %v", got, err)
		}
	}
	for _, below := range []api.Tree{nil, {}} {
		if err := csv.Fits(api.Tree{{Name: "x", T: api.Tree{{Name: "a", T: below}}}}); err != api.ErrFit {
			t.Errorf("P2: %v", err)
		}
		if got, err := csv.Put(below, "key,a\nx,1"); got != "key,a\n" || err != api.OK || csv.Fits(below) != api.OK {
			t.Errorf("P2: %q, %v", got, err)
		}
	}
}

// P1, P702: trees too deep and too wide end with tree.Check's error, and stay.
func TestTreesTooGreat(t *testing.T) {
	var wide, deep api.Tree
	for i := range 65536 {
		wide = append(wide, c(fmt.Sprintf("%05d", i), "v"))
	}
	for range 65536 {
		deep = api.Tree{e("d", deep...)}
	}
	for i, want := range []api.Errno{api.ErrMany, api.ErrDeep, api.ErrLong, api.ErrLong, api.ErrLong} {
		x := []api.Tree{wide, deep, {e(x(1 << 20))}, {e("a", c(x(1<<20), "v"))}, {e("a", c("c", x(1<<20)))}}[i]
		was := tree.Bytes(x)
		if err := csv.Fits(x); err != want {
			t.Errorf("P1, P702: %d: %v, not %v", i, err, want)
		}
		if got, err := csv.Put(x, "key,c\na,1"); got != "" || err != want {
			t.Errorf("P1, P703: %d: %q, %v, not %v", i, got, err, want)
		}
		if got, err := csv.Create(x); got != "" || err != want {
			t.Errorf("P1, P703: %d: %q, %v, not %v", i, got, err, want)
		}
		if string(tree.Bytes(x)) != string(was) {
			t.Errorf("P2: %d is changed", i)
		}
	}
}

// P1: files of any bytes end, greater ones too; P4: beside an error there is nothing.
func TestAnyBytes(t *testing.T) {
	r := rand.New(rand.NewSource(8))
	for range 3000 {
		s := make([]byte, r.Intn(60))
		for i := range s {
			s[i] = "\"\",,,\r\n\nkexy\x00\xff"[r.Intn(14)]
		}
		for _, s := range []string{string(s), "key" + string(s), "key,a\n" + string(s)} {
			sameLoad(t, s)
			got, err := csv.Put(nil, s)
			if _, _, want := csv.Load(s); err != want || err != api.OK && got != "" {
				t.Fatalf("P4, P703: %q: %q, %v, not %v", s, got, err, want)
			}
		}
	}
	for _, s := range []string{`"`, ",", "\r", "\n", "x", " ", "key\n", "key,", "\xff"} {
		refused(t, strings.Repeat(s, 1<<20), 0, api.ErrLong)
		refused(t, "key,"+strings.Repeat(s, 1<<20), 0, api.ErrLong)
	}
}
