package commit_test

import (
	"fmt"
	"slices"
	"strings"
	"testing"

	"cadence/api"
	"cadence/commit"
	"cadence/vfs"
)

// files are what s says: name=bytes, parted by spaces.
func files(s string) []commit.File {
	var l []commit.File
	for _, w := range strings.Fields(s) {
		name, b, _ := strings.Cut(w, "=")
		l = append(l, commit.File{Name: name, B: []byte(b)})
	}
	return l
}

// all is the files that are there, by name.
func all(v *vfs.Vfs) string {
	var l []string
	for _, name := range v.Names() {
		b, is, e := v.Read(name)
		l = append(l, name+"="+string(b))
		if !is || e != api.OK {
			l = append(l, e.Error())
		}
	}
	return strings.Join(l, " ")
}

// told is all that may be asked of them.
func told(v *vfs.Vfs) string {
	return fmt.Sprintf("%d of %d, %d, %t: %q: %q", v.Used(), v.Room(), v.Ops(), v.Dead(), v.Names(), all(v))
}

// begun are files that are as s says, flushed.
func begun(t *testing.T, room int, s string) *vfs.Vfs {
	t.Helper()
	v := vfs.New(room)
	for _, x := range files(s) {
		if e := v.Write(x.Name, x.B); e != api.OK {
			t.Fatalf("the test's own: %d bytes: %q: %v", room, s, e)
		}
	}
	v.Flush()
	return v
}

// dead is v, without power.
func dead(v *vfs.Vfs) *vfs.Vfs {
	v.Stop(1)
	v.Flush()
	return v
}

// put does s's words, one behind the other, without a Flush: a=x is a Write, -a a Remove.
func put(v *vfs.Vfs, s string) {
	for _, w := range strings.Fields(s) {
		if w[0] == '-' {
			v.Remove(w[1:])
			continue
		}
		v.Write(files(w)[0].Name, files(w)[0].B)
	}
}

// journalOf is the bytes of the journal of what s says, as the chapter has it.
func journalOf(l []commit.File) string {
	b := []byte{byte(len(l))}
	for _, x := range l {
		b = append(b, byte(len(x.Name)), byte(len(x.Name)>>8))
		b = append(b, x.Name...)
		b = append(b, byte(len(x.B)), byte(len(x.B)>>8))
		b = append(b, x.B...)
	}
	return string(b)
}

// keeps are all lists of so many marks, each below 3.
func keeps(n int) [][]int {
	all := [][]int{nil}
	for range n {
		var more [][]int
		for _, l := range all {
			for k := range 3 {
				more = append(more, append(slices.Clone(l), k))
			}
		}
		all = more
	}
	return all
}

// wanted holds a text to what the promise says of it.
func wanted(t *testing.T, promise, what, got, want string) {
	t.Helper()
	if got != want {
		t.Errorf("%s: %s: %q, not %q", promise, what, got, want)
	}
}

// roomy is l with spare room behind it, in which something stands.
func roomy[T any](l []T, spare ...T) []T {
	return append(append(make([]T, 0, len(l)+len(spare)), l...), spare...)[:len(l)]
}

// die throws.
type die struct{ n uint64 }

func (d *die) of(k int) int {
	d.n = d.n*6364136223846793005 + 1442695040888963407
	return int(d.n>>33) % k
}

// text has fewer than n bytes, any.
func (d *die) text(n int) string {
	b := make([]byte, d.of(n))
	for i := range b {
		b[i] = byte(d.of(256))
	}
	return string(b)
}

func (d *die) keep() []int {
	var l []int
	for range d.of(8) {
		l = append(l, d.of(4))
	}
	return l
}

// name is one of few; now and then, if it may, one that is none for Commit.
func (d *die) name(odd int) string {
	if d.of(40) < odd {
		return []string{"", "journal", "mark", strings.Repeat("n", 21)}[d.of(4)]
	}
	return []string{"a", "b", "c", "d", "o", "\xff\n", "Mark", strings.Repeat("n", 20)}[d.of(8)]
}

// files are up to five, now and then such that may not be.
func (d *die) files() []commit.File {
	var l []commit.File
	odd := d.of(3) / 2
	for range d.of(5 + odd) {
		l = append(l, commit.File{Name: d.name(odd), B: []byte(d.text(12))})
	}
	for i := range l {
		for odd == 0 && slices.ContainsFunc(l[:i], func(x commit.File) bool { return x.Name == l[i].Name }) {
			l[i].Name += "x"
			l[i].Name = l[i].Name[max(len(l[i].Name)-20, 0):]
		}
	}
	return l
}
