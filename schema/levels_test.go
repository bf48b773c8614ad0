package schema_test

import (
	"fmt"
	"slices"
	"strings"
	"testing"

	"cadence/api"
	"cadence/schema"
	"cadence/tree"
)

// die throws.
type die struct{ n uint64 }

func (d *die) of(k int) int {
	d.n = d.n*6364136223846793005 + 1442695040888963407
	return int(d.n>>33) % k
}

// letters are the names that are thrown.
const letters = "abcdef"

// names are some of the letters, in any order, some of them twice.
func (d *die) names() []string {
	var l []string
	for range d.of(5) {
		at := d.of(len(letters))
		l = append(l, letters[at:at+1])
	}
	return l
}

// schema is one that Check allows: whatever field is none is thrown again.
func (d *die) schema() api.Schema {
	s := make(api.Schema, 1+d.of(4))
	for i := range s {
		s[i].One, s[i].Some = d.of(5) == 0, d.of(4) == 0
		for range d.of(5) {
			f := api.Field{N: api.Names{All: d.of(3) == 0, L: d.names()}, To: d.of(len(s)), Need: d.of(4) == 0}
			s[i].Fields = append(s[i].Fields, f)
			if schema.Check(s) != api.OK {
				s[i].Fields = s[i].Fields[:len(s[i].Fields)-1]
			}
		}
	}
	return s
}

// tree is one at most so deep.
func (d *die) tree(deep int) api.Tree {
	var t api.Tree
	for _, name := range strings.Split(letters, "") {
		if deep > 0 && d.of(3) == 0 {
			t = append(t, e(name, d.tree(deep-1)...))
		}
	}
	return t
}

// plainTo, plainLevel, plainFits are P402 anew, so that the package is not its own witness.
func plainTo(s api.Schema, def int, name string) int {
	to := -1
	for _, f := range s[def].Fields {
		if slices.Contains(f.N.L, name) && !f.N.All || !slices.Contains(f.N.L, name) && f.N.All {
			to = f.To
		}
	}
	return to
}

func plainLevel(s api.Schema, def int, t api.Tree) bool {
	is := true
	there := map[string]bool{}
	for _, x := range t {
		there[x.Name] = true
		is = is && plainTo(s, def, x.Name) != -1
	}
	for _, f := range s[def].Fields {
		for _, name := range f.N.L {
			is = is && (there[name] || !f.Need)
		}
	}
	if s[def].One && len(t) != 1 || s[def].Some && len(t) < 1 {
		return false
	}
	return is
}

func plainFits(s api.Schema, def int, t api.Tree) bool {
	if !plainLevel(s, def, t) {
		return false
	}
	for _, x := range t {
		if !plainFits(s, plainTo(s, def, x.Name), x.T) {
			return false
		}
	}
	return true
}

// told is a schema and a tree written out.
func told(s api.Schema, t api.Tree) string { return fmt.Sprintf("%+v, %s", s, tree.Text(t)) }

// P402: of schemas and trees that are thrown.
func TestThrown(t *testing.T) {
	d := &die{4}
	level, fits := [2]int{}, [2]int{}
	for range 20000 {
		s, x := d.schema(), d.tree(d.of(4))
		for def := range s {
			a, b := schema.Level(s, def, x), schema.Fits(s, def, x)
			if a != plainLevel(s, def, x) || b != plainFits(s, def, x) {
				t.Fatalf("P402: %d: %v, %v of %s", def, a, b, told(s, x))
			}
			level[one(a)]++
			fits[one(b && tree.Depth(x) > 1)]++
			for _, name := range []string{"", "a", "c", "f", "g", "ab"} {
				if got := schema.To(s, def, name); got != plainTo(s, def, name) {
					t.Fatalf("P402: To(%d, %q): %d of %s", def, name, got, told(s, nil))
				}
			}
		}
	}
	if min(level[0], level[1], fits[0], fits[1]) < 500 {
		t.Errorf("what was thrown tells too little: %v, %v", level, fits)
	}
}

func one(is bool) int {
	if is {
		return 1
	}
	return 0
}

// P401: what Check says of schemas that are thrown: ErrTwice, just where a name that is thrown, or one that is not, is in two fields.
func TestCheckThrown(t *testing.T) {
	d := &die{5}
	seen := [2]int{}
	for range 20000 {
		var x api.Def
		for range 1 + d.of(3) {
			x.Fields = append(x.Fields, api.Field{N: api.Names{All: d.of(4) == 0, L: d.names()}})
		}
		want := api.OK
		for _, name := range append(strings.Split(letters, ""), "other") {
			in := 0
			for _, f := range x.Fields {
				in += one(slices.Contains(f.N.L, name) != f.N.All)
			}
			if in > 1 {
				want = api.ErrTwice
			}
		}
		seen[one(want == api.OK)]++
		if got := schema.Check(api.Schema{x}); got != want {
			t.Fatalf("P401: %v, not %v of %+v", got, want, x)
		}
	}
	if min(seen[0], seen[1]) < 500 {
		t.Errorf("what was thrown tells too little: %v", seen)
	}
}

// levels are all the levels of a tree, each with its definition, each asked for by itself.
func levels(s api.Schema, def int, t api.Tree) bool {
	if !schema.Level(s, def, t) {
		return false
	}
	for _, x := range t {
		below, _ := tree.Get(t, []string{x.Name})
		if !levels(s, schema.To(s, def, x.Name), below) {
			return false
		}
	}
	return true
}

// P403: what fits is told by each level alone, and a level by its names alone.
func TestEachLevel(t *testing.T) {
	d := &die{6}
	for range 20000 {
		s, x, y := d.schema(), d.tree(1+d.of(3)), d.tree(2)
		for def := range s {
			if schema.Fits(s, def, x) != levels(s, def, x) {
				t.Fatalf("P403: %d: %s", def, told(s, x))
			}
			was := schema.Level(s, def, x)
			other := slices.Clone(x)
			for i := range other {
				other[i].T = y
			}
			if schema.Level(s, def, other) != was {
				t.Fatalf("P403: %d: what is below counts: %s", def, told(s, other))
			}
			if schema.Fits(s, def, other) && !was {
				t.Fatalf("P403: %d: fits, but its first level: %s", def, told(s, other))
			}
		}
	}
}

// P403: what is below an edge may be any other tree that fits there, and fits itself where it stood.
func TestExchanged(t *testing.T) {
	d := &die{7}
	n := 0
	for range 20000 {
		s, x, y := d.schema(), d.tree(3), d.tree(2)
		if !schema.Fits(s, 0, x) {
			continue
		}
		for _, edge := range x {
			to := schema.To(s, 0, edge.Name)
			if !schema.Fits(s, to, edge.T) || schema.Fits(s, 0, tree.Put(x, []string{edge.Name}, y)) != schema.Fits(s, to, y) {
				t.Fatalf("P403: %s: %s, and %s", edge.Name, told(s, x), tree.Text(y))
			}
			n++
		}
	}
	if n < 500 {
		t.Errorf("what was thrown tells too little: %d", n)
	}
}
