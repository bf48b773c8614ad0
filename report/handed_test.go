package report_test

import (
	"fmt"
	"slices"
	"testing"

	"cadence/api"
	"cadence/report"
)

// roomy is l with spare room behind it, in which something stands.
func roomy[T any](l []T, spare ...T) []T {
	return append(append(make([]T, 0, len(l)+len(spare)), l...), spare...)[:len(l)]
}

// written is all that the lists' memory holds, their spare room too.
func written(l []api.Conflict) string {
	s := ""
	for _, c := range l[:cap(l)] {
		s += fmt.Sprintf("%d %d %q\n", c.Kind, len(c.Path), c.Path[:cap(c.Path)])
	}
	return s
}

// P2, P3: paths and conflicts stay as they are, their spare room too, which does not count; the same call answers the same.
func TestHandedIn(t *testing.T) {
	d := &die{146}
	for range 1000 {
		l := d.conflicts()
		l2 := roomy(l, at(api.KGone, "spare"), at(api.KShape))
		for i, c := range l2 {
			l2[i].Path = roomy(c.Path, "spare", "room")
		}
		was := written(l2)
		for range 2 {
			if got := report.Text(l2); got != plainText(l) {
				t.Fatalf("P2, P3: %q", got)
			}
			for i, c := range l2 {
				if got := report.Path(c.Path); got != plainPath(l[i].Path) {
					t.Fatalf("P2, P3: %s", got)
				}
			}
		}
		if written(l2) != was {
			t.Fatalf("P2: what is handed in is changed: %s", was)
		}
	}
}

// P2: what ParsePath answers is new memory, its spare room too.
func TestNewMemory(t *testing.T) {
	d := &die{147}
	for range 1000 {
		p := d.path()
		s := report.Path(p)
		one, _ := report.ParsePath(s)
		two, _ := report.ParsePath(s)
		for i := range one[:cap(one)] {
			one[:cap(one)][i] = "over"
		}
		if again, e := report.ParsePath(s); e != api.OK || told(two) != told(p) || told(again) != told(p) {
			t.Fatalf("P2, P3: %q, %q, not %q", two, again, p)
		}
	}
}

// P3, P5: an error leaves nothing behind that a later call could tell.
func TestBehindAnError(t *testing.T) {
	for _, s := range []string{"", `/"a`, `/"a"/"\x4`, `/"\`, long(4001)} {
		report.ParsePath(s)
		if p, e := report.ParsePath(`/"b"/"c"`); e != api.OK || !slices.Equal(p, []string{"b", "c"}) {
			t.Errorf("P5: behind %.20q: %q, %v", s, p, e)
		}
	}
}

// P3, P7: calls side by side do not touch one another.
func TestSideBySide(t *testing.T) {
	p := []string{"a\n", `"`, "\xff", ""}
	l := []api.Conflict{at(api.KGone, p...), at(api.KShape, p...)}
	want := plainText(l) + plainPath(p) + told(p)
	done := make(chan string)
	for range 8 {
		go func() {
			q, _ := report.ParsePath(plainPath(p))
			done <- report.Text(l) + report.Path(p) + told(q)
		}()
	}
	for range 8 {
		if got := <-done; got != want {
			t.Errorf("P3: %s, not %s", got, want)
		}
	}
}
