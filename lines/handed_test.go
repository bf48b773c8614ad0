package lines_test

import (
	"fmt"
	"math"
	"slices"
	"testing"

	"cadence/api"
	"cadence/lines"
)

// roomy is l with spare room behind it, in which something stands.
func roomy[T any](l []T, spare T) []T {
	r := append(make([]T, 0, len(l)+3), l...)
	for range 3 {
		r = append(r, spare)
	}
	return r[:len(l)]
}

// written is all that a list's memory holds, its spare room too.
func written[T any](l []T) string { return fmt.Sprintf("%d %#v", len(l), l[:cap(l)]) }

// P2, P3: what is handed in, its spare room too, stays as it is and does not count; the same calls answer the same.
func TestHandedIn(t *testing.T) {
	for _, plain := range lists(4) {
		l := roomy(plain, line("spare", "room"))
		texts := roomy([]string{"x", "y"}, "spare")
		was, wasTexts := written(l), written(texts)
		for at := -1; at < len(l)+2; at++ {
			for n := range 3 {
				want := lines.Insert(plain, at, []string{"x", "y"}[:n])
				for range 2 {
					if got := lines.Insert(l, at, texts[:n]); !slices.Equal(got, want) {
						t.Fatalf("P2, P3: Insert(%s, %d, %q): %s", told(l), at, texts[:n], told(got))
					}
				}
			}
		}
		if lines.Join(l) != lines.Join(plain) || lines.End(l) != lines.End(plain) {
			t.Fatalf("P2: what stands in spare room counts: %s", told(l))
		}
		if written(l) != was || written(texts) != wasTexts {
			t.Fatalf("P2: changed: %s", told(plain))
		}
	}
}

// overwrite changes all that stands in a list's memory, its spare room too.
func overwrite(l []api.Line) {
	for i := range l[:cap(l)] {
		l[:cap(l)][i] = line("over", "written")
	}
}

// P2: an answer is new memory, its spare room too: it shares none with what was handed in, nor with another answer.
func TestNewMemory(t *testing.T) {
	for _, plain := range lists(3) {
		for at := range len(plain) + 1 {
			for _, texts := range [][]string{nil, {"x"}, {"x", "y"}} {
				l, given := roomy(plain, line("spare", "room")), roomy(texts, "spare")
				was, wasGiven := written(l), written(given)
				one, two := lines.Insert(l, at, given), lines.Insert(l, at, given)
				want := written(two)
				overwrite(one)
				if written(l) != was || written(given) != wasGiven || written(two) != want {
					t.Fatalf("P2: what Insert answers shares memory: %s, %d, %q", told(plain), at, texts)
				}
				overwrite(l)
				clear(given[:cap(given)])
				if written(two) != want {
					t.Fatalf("P2: Insert keeps what it is handed: %s, %d, %q", told(plain), at, texts)
				}
			}
		}
	}
	for _, s := range over("a\n\r", 4) {
		one, two := lines.Split(s), lines.Split(s)
		want := written(two)
		overwrite(one)
		if written(two) != want || !slices.Equal(two, plainSplit(s)) {
			t.Fatalf("P2, P3: Split(%q)", s)
		}
	}
}

// P2: an empty list and none are the same.
func TestEmptyLists(t *testing.T) {
	for _, l := range [][]api.Line{nil, {}} {
		for _, texts := range [][]string{nil, {}} {
			for _, at := range []int{-1, 0, 1} {
				if got := lines.Insert(l, at, texts); len(got) != 0 {
					t.Errorf("P2: Insert of nothing: %s", told(got))
				}
			}
		}
		if got := lines.Insert(l, 0, []string{"x"}); !slices.Equal(got, []api.Line{line("x", "\n")}) {
			t.Errorf("P2: Insert into nothing: %s", told(got))
		}
		if lines.Join(l) != "" || lines.End(l) != "\n" {
			t.Errorf("P2: %q, %q of no lines", lines.Join(l), lines.End(l))
		}
	}
}

// P1, P2: lines that are none, at places that are none, end, and are left as they are.
func TestWhatMayNotBe(t *testing.T) {
	odd := []api.Line{line("a\nb", "\r"), line("\r\n", "end"), line("\xff\n", "\n\n"), {}, line("", "\n\r"), {}}
	for from := range odd {
		l := roomy(odd[from:], line("spare", "room"))
		was := written(l)
		for _, at := range []int{math.MinInt, math.MinInt + 1, -1 << 32, -1, 0, 1, 6, 7, 1 << 32, math.MaxInt - 1, math.MaxInt} {
			for _, texts := range [][]string{nil, {""}, {"\n", "\r\n", "x\ny", "\xff"}} {
				got := lines.Insert(l, at, texts)
				if len(got) != len(l)+len(texts) {
					t.Errorf("P1: %s, %d: %d lines", told(l), at, len(got))
				}
			}
		}
		lines.Join(l)
		lines.End(l)
		if written(l) != was {
			t.Errorf("P2: changed: %s", told(odd[from:]))
		}
	}
}
