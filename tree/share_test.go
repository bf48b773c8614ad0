package tree_test

import (
	"bytes"
	"fmt"
	"slices"
	"strings"
	"testing"

	"cadence/api"
	"cadence/tree"
)

// roomy is t with spare room behind each list, in which something stands.
func roomy(t api.Tree) api.Tree {
	l := make(api.Tree, 0, len(t)+3)
	for _, x := range t {
		l = append(l, api.Edge{Name: x.Name, T: roomy(x.T)})
	}
	spare := l[len(l):cap(l)]
	for i := range spare {
		spare[i] = e("spare", e("below"))
	}
	return l
}

// all tells everything that a list's memory holds, its spare room too.
func all(t api.Tree) string {
	s := "("
	for i, x := range t[:cap(t)] {
		if i == len(t) {
			s += "|"
		}
		s += x.Name + all(x.T)
	}
	return s + ")"
}

// lists are all lists of t, its own too.
func lists(t api.Tree) []api.Tree {
	l := []api.Tree{t}
	for _, x := range t {
		l = append(l, lists(x.T)...)
	}
	return l
}

// shares tells whether two of the lists have memory in common: each is written over wholly, and then looked at again.
func shares(l []api.Tree) bool {
	for i, t := range l {
		for k := range t[:cap(t)] {
			t[:cap(t)][k] = e(fmt.Sprint("list", i))
		}
	}
	for i, t := range l {
		for _, x := range t[:cap(t)] {
			if x.Name != fmt.Sprint("list", i) {
				return true
			}
		}
	}
	return false
}

// calls are those that answer a tree, each with what it is handed twice, where it can be.
func calls() map[string]func(x api.Tree) api.Tree {
	return map[string]func(x api.Tree) api.Tree{
		"Get of all":       func(x api.Tree) api.Tree { y, _ := tree.Get(x, nil); return y },
		"Get":              func(x api.Tree) api.Tree { y, _ := tree.Get(x, []string{"c"}); return y },
		"Put of all":       func(x api.Tree) api.Tree { return tree.Put(x, nil, x) },
		"Put":              func(x api.Tree) api.Tree { return tree.Put(x, []string{"a"}, x) },
		"Put of a new one": func(x api.Tree) api.Tree { return tree.Put(x, []string{"b", "bb"}, x[1].T) },
		"Put below":        func(x api.Tree) api.Tree { return tree.Put(x, []string{"c", "x", "m"}, x[1].T) },
		"Drop":             func(x api.Tree) api.Tree { return tree.Drop(x, []string{"c", "x", "y"}) },
		"Drop of none":     func(x api.Tree) api.Tree { return tree.Drop(x, []string{"b", "x"}) },
		"Drop of none, at": func(x api.Tree) api.Tree { return tree.Drop(x, []string{"b"}) },
		"Drop of all":      func(x api.Tree) api.Tree { return tree.Drop(x, nil) },
		"Parse":            func(x api.Tree) api.Tree { y, _ := tree.Parse(tree.Bytes(x)); return y },
	}
}

// P2: what is handed in, its spare room too, stays as it is, and no list of an answer shares memory with it, or with another one.
func TestNewMemory(t *testing.T) {
	for name, call := range calls() {
		x := roomy(some())
		was := all(x)
		got := call(x)
		if all(x) != was {
			t.Errorf("P2: %s changed what it was handed", name)
		}
		again := call(x)
		if tree.Text(again) != tree.Text(got) {
			t.Errorf("P3: %s", name)
		}
		if shares(append(append(lists(got), lists(again)...), lists(x)...)) {
			t.Errorf("P2: an answer of %s shares memory", name)
		}
	}
}

// P2: a list that stands in a tree twice stands in an answer as two.
func TestListTwice(t *testing.T) {
	below := roomy(leaves("m", "n"))
	x := api.Tree{{Name: "a", T: below}, {Name: "c", T: below}}
	for name, call := range calls() {
		if shares(lists(call(x))) {
			t.Errorf("P2: %s answers one list twice", name)
		}
		below[0], below[1] = e("m"), e("n")
	}
}

// P2: the calls that answer no tree leave what they are handed, too.
func TestAskedOnly(t *testing.T) {
	x, y := roomy(some()), roomy(leaves("z"))
	was := all(x) + all(y)
	path := append(make([]string, 0, 4), "c", "x")
	l := []api.Tree{x, y, x}
	tree.Check(x)
	tree.Same(x, y)
	tree.Size(x)
	tree.Depth(x)
	tree.Bytes(x)
	tree.Text(x)
	tree.Names(l[:2]...)
	tree.Get(x, path)
	tree.Put(x, path, y)
	tree.Drop(x, path)
	if all(x)+all(y) != was || all(l[2]) != all(x) || !slices.Equal(path[:4], []string{"c", "x", "", ""}) {
		t.Error("P2: what was handed in is changed")
	}
}

// P2: the lists that are answered beside trees are new ones, too.
func TestNewLists(t *testing.T) {
	one, two := tree.Names(some()), tree.Names(some())
	for i := range one[:cap(one)] {
		one[:cap(one)][i] = "z"
	}
	if strings.Join(two, "") != "acd" {
		t.Error("P2: Names")
	}
	x := some()
	a, b := tree.Bytes(x), tree.Bytes(x)
	want := bytes.Clone(b)
	for i := range a[:cap(a)] {
		a[:cap(a)][i] = 0xEE
	}
	if !bytes.Equal(b, want) || plain(x) != plain(some()) {
		t.Error("P2: Bytes")
	}
	y, _ := tree.Parse(b[:len(b):len(b)])
	if !bytes.Equal(b, want) {
		t.Error("P2: Parse changed what it was handed")
	}
	for i := range b {
		b[i] = 0xEE
	}
	if plain(y) != plain(x) {
		t.Error("P2: Parse kept what it was handed")
	}
}
