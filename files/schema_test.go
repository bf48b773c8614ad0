package files_test

import (
	"fmt"
	"math/rand"
	"slices"
	"testing"

	"cadence/api"
	"cadence/files"
	"cadence/schema"
	"cadence/tree"
)

// all is a field of all names, must one of a name that is needed.
func all(to int) []api.Field { return []api.Field{{N: api.Names{All: true}, To: to}} }

func must(name string, to int) api.Field {
	return api.Field{N: api.Names{L: []string{name}}, To: to, Need: true}
}

// wanted is the schema that the chapter has.
func wanted(kind int) api.Schema {
	switch kind {
	case api.FIni, api.FCsv:
		return api.Schema{{Fields: all(1)}, {Fields: all(2)}, {Fields: all(3), One: true}, {}}
	case api.FCard:
		return api.Schema{{Fields: all(1)}, {Fields: all(2), Some: true}, {Fields: []api.Field{must("blocks", 0), must("props", 3)}}, {Fields: all(4)}, {Fields: all(5), Some: true}, {}}
	case api.FMarks:
		return api.Schema{{Fields: []api.Field{must("folders", 1), must("links", 2)}}, {Fields: all(0)}, {Fields: all(3)}, {Fields: all(4), One: true}, {}}
	}
	return nil
}

// P1001: the definitions, by their numbers.
func TestSchema(t *testing.T) {
	for kind := -3; kind < 9; kind++ {
		if got, want := fmt.Sprintf("%+v", files.Schema(kind)), fmt.Sprintf("%+v", wanted(kind)); got != want {
			t.Errorf("P1001: Schema(%d): %s, not %s", kind, got, want)
		}
	}
	for _, kind := range kinds() {
		if err := schema.Check(files.Schema(kind)); err != api.OK {
			t.Errorf("P1001: Check(Schema(%d)): %v", kind, err)
		}
	}
}

// fitting asks whether what fits the form fits its schema; it tells whether it does.
func fitting(t *testing.T, kind int, x api.Tree) bool {
	t.Helper()
	if files.Fits(kind, x) != api.OK {
		return false
	}
	if !schema.Fits(files.Schema(kind), 0, x) {
		t.Errorf("P1002: %d: %s", kind, tree.Text(x))
	}
	return true
}

// P1002: what is loaded, and other trees.
func TestFitsSchema(t *testing.T) {
	for _, kind := range kinds() {
		n := 0
		for _, s := range someFiles() {
			if x, _, err := files.Load(kind, s); err == api.OK && !fitting(t, kind, x) {
				t.Errorf("P1001: %d: %s is loaded, and does not fit", kind, tree.Text(x))
			}
		}
		for _, x := range someTrees() {
			if fitting(t, kind, x) {
				n++
			}
		}
		if n < 3 {
			t.Errorf("P1002: %d: %d trees fit", kind, n)
		}
	}
}

// P1002: trees with an edge more or less anywhere.
func TestFitsSchemaNear(t *testing.T) {
	for _, kind := range kinds() {
		for _, x := range someTrees() {
			for _, path := range paths(x, nil) {
				fitting(t, kind, tree.Drop(x, path))
				for _, name := range []string{"", "a", "A", "x", "blocks", "props", "folders", "links", "ID", "\n"} {
					for _, below := range someTrees()[:22] {
						fitting(t, kind, tree.Put(x, append(path[:len(path):len(path)], name), below))
						fitting(t, kind, tree.Put(x, append(path[:len(path)-1:len(path)-1], name), below))
					}
				}
			}
		}
	}
}

// paths are those of all edges of a tree.
func paths(t api.Tree, ahead []string) [][]string {
	var l [][]string
	for _, x := range t {
		here := append(slices.Clone(ahead), x.Name)
		l = append(append(l, here), paths(x.T, here)...)
	}
	return l
}

// P1001, P1002: trees made by the schema as the chapter has it fit the form, up to its depth: so no schema says more than its form.
func TestSchemaFits(t *testing.T) {
	r := rand.New(rand.NewSource(10))
	for _, kind := range kinds() {
		n := 0
		for range 3000 {
			x := made(r, wanted(kind), 0, 6)
			if !schema.Fits(files.Schema(kind), 0, x) {
				t.Errorf("P1001: %d: %s", kind, tree.Text(x))
			}
			if err := files.Fits(kind, x); err != api.OK && tree.Check(x) == api.OK {
				t.Errorf("P1001: %d: %s: %v", kind, tree.Text(x), err)
			} else if err == api.OK {
				n++
			}
		}
		if n < 1000 {
			t.Errorf("P1002: %d: %d trees fit", kind, n)
		}
	}
}

// made is any tree that fits a definition, with plain names; below deep levels it has no more than it must.
func made(r *rand.Rand, s api.Schema, def, deep int) api.Tree {
	var t api.Tree
	d := s[def]
	for _, f := range d.Fields {
		n := 0
		if deep > 0 {
			n = r.Intn(4)
		}
		if d.Some {
			n = max(n, 1)
		}
		if d.One || f.Need {
			n = 1
		}
		names := f.N.L
		if f.N.All {
			names = []string{"A", "B", "C"}[:min(n, 3)]
		}
		for _, name := range names {
			t = append(t, api.Edge{Name: name, T: made(r, s, f.To, deep-1)})
		}
	}
	return t
}
