package vfs_test

import (
	"fmt"
	"slices"
	"strings"
	"testing"

	"cadence/api"
	"cadence/vfs"
)

// told is all that may be asked of files; what Read answers too, where the power is there.
func told(v *vfs.Vfs) string {
	s := fmt.Sprintf("%d of %d, %d, %t:", v.Used(), v.Room(), v.Ops(), v.Dead())
	for _, name := range v.Names() {
		b, is, e := v.Read(name)
		s += fmt.Sprintf(" %q=%q %t %v", name, b, is, e)
	}
	return s
}

// all is the files, by name.
func all(v *vfs.Vfs) string {
	var l []string
	for _, name := range v.Names() {
		b, is, e := v.Read(name)
		l = append(l, name+"="+string(b))
		if !is || e != api.OK {
			l = append(l, e.Error())
		}
	}
	return strings.Join(l, " ")
}

// do does what the words of s say, one behind the other: a=x a Write, -a a Remove, ! a Flush, ?n a Stop, *marks a Crash; it tells the errors.
func do(v *vfs.Vfs, s string) string {
	var l []string
	for _, w := range strings.Fields(s) {
		name, b, is := strings.Cut(w, "=")
		switch {
		case is:
			l = append(l, v.Write(name, []byte(b)).Error())
		case w[0] == '-':
			l = append(l, v.Remove(w[1:]).Error())
		case w[0] == '!':
			l = append(l, v.Flush().Error())
		case w[0] == '?':
			v.Stop(int(w[1]) - '0')
		case w[0] == '*':
			v.Crash(marks(w[1:]))
		}
	}
	return strings.Join(l, " ")
}

// marks are digits, as what Crash is handed.
func marks(s string) []int {
	var l []int
	for _, c := range s {
		l = append(l, int(c-'0'))
	}
	return l
}

// made is files of which s was done.
func made(room int, s string) *vfs.Vfs {
	v := vfs.New(room)
	do(v, s)
	return v
}

// keeps are all lists of so many marks, each below top.
func keeps(n, top int) [][]int {
	all := [][]int{nil}
	for range n {
		var more [][]int
		for _, l := range all {
			for k := range top {
				more = append(more, append(slices.Clone(l), k))
			}
		}
		all = more
	}
	return all
}

// wanted holds a text to what the promise says of it.
func wanted(t *testing.T, promise, what, got, want string) {
	t.Helper()
	if got != want {
		t.Errorf("%s: %s: %s, not %s", promise, what, got, want)
	}
}

// roomy is l with spare room behind it, in which something stands.
func roomy[T any](l []T, spare ...T) []T {
	return append(append(make([]T, 0, len(l)+len(spare)), l...), spare...)[:len(l)]
}

// die throws.
type die struct{ n uint64 }

func (d *die) of(k int) int {
	d.n = d.n*6364136223846793005 + 1442695040888963407
	return int(d.n>>33) % k
}

// bytes are up to n.
func (d *die) bytes(n int) []byte {
	var b []byte
	for range d.of(n + 1) {
		b = append(b, byte(d.of(256)))
	}
	return b
}

func (d *die) keep() []int {
	var l []int
	for range d.of(8) {
		l = append(l, d.of(5)-1)
	}
	return l
}

// name is one of few; now and then one that may not be.
func (d *die) name() string {
	return []string{"a", "b", "c", "B", "ab", "", "\xff\n", strings.Repeat("n", 20), strings.Repeat("n", 21)}[d.of(9)]
}
