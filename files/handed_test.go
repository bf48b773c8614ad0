package files_test

import (
	"fmt"
	"slices"
	"strings"
	"testing"

	"cadence/api"
	"cadence/files"
	"cadence/tree"
)

// roomy is t with spare room behind each list, in which something stands.
func roomy(t api.Tree) api.Tree {
	l := make(api.Tree, 0, len(t)+2)
	for _, x := range t {
		l = append(l, e(x.Name, roomy(x.T)...))
	}
	return append(l, e("links", e("spare")), e("spare", e("k", e("room"))))[:len(t)]
}

// written is all that a tree's memory holds, its spare room too.
func written(t api.Tree) string {
	var s strings.Builder
	for i, x := range t[:cap(t)] {
		fmt.Fprintf(&s, "%t %q(%s)", i < len(t), x.Name, written(x.T))
	}
	return s.String()
}

// P2, P3: a tree that is handed in stays as it is, its spare room too, which does not count; the same calls answer the same.
func TestHandedIn(t *testing.T) {
	for _, kind := range append(kinds(), 0, 5) {
		for i, plain := range someTrees() {
			x := roomy(plain)
			was := written(x)
			for range 2 {
				if got, want := files.Fits(kind, x), files.Fits(kind, plain); got != want {
					t.Errorf("P2, P3: Fits(%d), tree %d: %v, not %v", kind, i, got, want)
				}
				got, err := files.Create(kind, x)
				if want, e := files.Create(kind, plain); got != want || err != e {
					t.Errorf("P2, P3: Create(%d), tree %d: %q, %v, not %q, %v", kind, i, got, err, want, e)
				}
				for _, s := range someFiles() {
					got, err := files.Put(kind, x, s)
					if want, e := files.Put(kind, plain, s); got != want || err != e {
						t.Errorf("P2, P3: Put(%d), tree %d, %q: %q, %v, not %q, %v", kind, i, s, got, err, want, e)
					}
				}
			}
			if written(x) != was {
				t.Errorf("P2: %d: tree %d is changed", kind, i)
			}
		}
	}
}

// spoil writes a tree over wholly, its spare room too.
func spoil(t api.Tree) {
	for i, x := range t[:cap(t)] {
		spoil(x.T)
		t[:cap(t)][i] = e("spoilt")
	}
}

// P2, P3: Load answers new memory each time.
func TestNewTree(t *testing.T) {
	for _, kind := range kinds() {
		for _, s := range someFiles() {
			first, _, _ := files.Load(kind, s)
			second, _, _ := files.Load(kind, s)
			want := tree.Text(first)
			spoil(second)
			third, _, _ := files.Load(kind, s)
			if tree.Text(first) != want || tree.Text(third) != want {
				t.Errorf("P2, P3: Load(%d, %q)", kind, s)
			}
		}
	}
}

// shares tells whether two of the lists have memory in common: each is written over wholly, and then looked at again.
func shares[T any](l [][]T, mark func(i int) T, is func(x T, i int) bool) bool {
	for i, list := range l {
		for j := range list[:cap(list)] {
			list[:cap(list)][j] = mark(i)
		}
	}
	for i, list := range l {
		if slices.ContainsFunc(list[:cap(list)], func(x T) bool { return !is(x, i) }) {
			return true
		}
	}
	return false
}

// P2, P3: Schema answers new memory each time, and no two lists share any.
func TestNewSchema(t *testing.T) {
	for _, kind := range kinds() {
		var names [][]string
		var fields [][]api.Field
		var defs [][]api.Def
		for range 2 {
			for _, other := range kinds() {
				s := files.Schema(other)
				defs = append(defs, s)
				for _, d := range s {
					fields = append(fields, d.Fields)
					for _, f := range d.Fields {
						names = append(names, f.N.L)
					}
				}
			}
		}
		if shares(names, func(i int) string { return fmt.Sprint(i) }, func(x string, i int) bool { return x == fmt.Sprint(i) }) {
			t.Errorf("P2: %d: lists of names share memory", kind)
		}
		if shares(fields, func(i int) api.Field { return api.Field{To: i} }, func(x api.Field, i int) bool { return x.To == i }) {
			t.Errorf("P2: %d: lists of fields share memory", kind)
		}
		if shares(defs, func(i int) api.Def { return api.Def{Fields: make([]api.Field, i)} }, func(x api.Def, i int) bool { return len(x.Fields) == i }) {
			t.Errorf("P2: %d: schemas share memory", kind)
		}
		if got, want := fmt.Sprintf("%+v", files.Schema(kind)), fmt.Sprintf("%+v", wanted(kind)); got != want {
			t.Errorf("P2, P3: Schema(%d) behind a change of others: %s, not %s", kind, got, want)
		}
	}
}
