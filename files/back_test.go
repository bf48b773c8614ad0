package files_test

import (
	"math/rand"
	"slices"
	"strings"
	"testing"

	"cadence/api"
	"cadence/files"
	"cadence/tree"
)

// back asks T1 of a file and of all trees: a file's own tree leaves it as it is, any that fits is loaded from it just so. It tells how many trees fit.
func back(t *testing.T, kind int, s string, trees []api.Tree) (n int) {
	t.Helper()
	own, _, err := files.Load(kind, s)
	if err != api.OK {
		return 0
	}
	if made, err := files.Put(kind, own, s); made != s || err != api.OK {
		t.Errorf("T1, P1001: %d: %q is put back as %q, %v", kind, s, made, err)
	}
	for _, x := range trees {
		made, err := files.Put(kind, x, s)
		if err != files.Fits(kind, x) {
			t.Errorf("T1, P1001: %d: %s into %q: %v", kind, tree.Text(x), s, err)
		}
		if err != api.OK {
			continue
		}
		n++
		if y, line, err := files.Load(kind, made); err != api.OK || line != 0 || !tree.Same(x, y) {
			t.Errorf("T1, P1001: %d: %s into %q is %q, loaded as %s, %d, %v", kind, tree.Text(x), s, made, tree.Text(y), line, err)
		}
		if again, err := files.Put(kind, x, made); again != made || err != api.OK {
			t.Errorf("T1, P1001: %d: %s is put back into %q as %q, %v", kind, tree.Text(x), made, again, err)
		}
	}
	return n
}

// T1: there and back, of each form.
func TestBack(t *testing.T) {
	r := rand.New(rand.NewSource(1))
	for _, kind := range kinds() {
		trees := someTrees()
		for range 30 {
			trees = append(trees, made(r, wanted(kind), 0, 5))
		}
		l := someFiles()
		for _, x := range trees {
			if s, err := files.Create(kind, x); err == api.OK {
				l = append(l, s, strings.ReplaceAll(s, "\n", "\r\n"), strings.TrimSuffix(s, "\n"))
			}
		}
		n := 0
		for _, s := range l {
			n += back(t, kind, s, trees)
		}
		if n < 1000 {
			t.Errorf("T1: %d: %d trees fit", kind, n)
		}
	}
}

// T1: a tree goes from one form to another, where it fits both.
func TestBackAcross(t *testing.T) {
	for _, s := range []string{"[a]\nk=v\nl=w\n[b]\n", "key,k,l\na,v,w\nb,,\n"} {
		var x api.Tree
		for _, kind := range kinds() {
			if y, _, err := files.Load(kind, s); err == api.OK {
				x = y
			}
		}
		for _, kind := range kinds() {
			want := slices.Contains([]int{api.FIni, api.FCsv}, kind)
			if is := files.Fits(kind, x) == api.OK; is != want {
				t.Errorf("P1001: Fits(%d, %s): %t", kind, tree.Text(x), is)
			}
			if s, err := files.Create(kind, x); want && (err != api.OK || back(t, kind, s, []api.Tree{x}) != 1) {
				t.Errorf("T1, P1001: Create(%d, %s): %q, %v", kind, tree.Text(x), s, err)
			}
		}
	}
}
