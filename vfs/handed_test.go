package vfs_test

import (
	"fmt"
	"slices"
	"strings"
	"testing"

	"cadence/api"
	"cadence/vfs"
)

// P2: what Write is handed is not changed and not kept: neither now, nor by what is flushed, nor by what a crash brings back.
func TestBytesHandedIn(t *testing.T) {
	for _, flush := range []string{"", "!"} {
		for _, keep := range []string{"", "*1", "*2"} {
			v := vfs.New(100)
			b := roomy([]byte("abcd"), 'x', 'y')
			v.Write("a", b)
			do(v, flush)
			if string(b[:cap(b)]) != "abcdxy" {
				t.Fatalf("P2: Write changed %q", b[:cap(b)])
			}
			for i := range b[:cap(b)] {
				b[:cap(b)][i] = 'z'
			}
			do(v, keep)
			want := "a=abcd"
			if flush == "" && keep == "*2" {
				want = "a=ab"
			}
			wanted(t, "P2", flush+keep, all(v), want)
		}
	}
}

// P2: one list may be written as two files, each of which is its own.
func TestBytesTwice(t *testing.T) {
	v := vfs.New(100)
	b := []byte("ab")
	v.Write("a", b)
	b[0] = 'c'
	v.Write("b", b)
	b[1] = 'd'
	wanted(t, "P2", "b twice", all(v), "a=ab b=cb")
	got, _, _ := v.Read("a")
	v.Write("c", got)
	got[0] = 'e'
	wanted(t, "P2", "what was read", all(v), "a=ab b=cb c=ab")
}

// P2: what Crash is handed is not changed, and its spare room does not count.
func TestMarksHandedIn(t *testing.T) {
	for _, keep := range keeps(3, 4) {
		v, w := made(100, "a=1 ! a=2345 -a b=67 c=8"), made(100, "a=1 ! a=2345 -a b=67 c=8")
		l := roomy(keep, 1, 1, 1)
		was := slices.Clone(l[:cap(l)])
		v.Crash(l)
		w.Crash(keep)
		if !slices.Equal(l[:cap(l)], was) {
			t.Fatalf("P2: Crash changed %v", was)
		}
		wanted(t, "P2", fmt.Sprint(keep), told(v), told(w))
		clear(l)
		wanted(t, "P2", fmt.Sprint(keep), told(v), told(w))
	}
}

// P2: what is answered is new memory, its spare room too.
func TestNewMemory(t *testing.T) {
	for _, s := range []string{"a=abc b=d", "a=abc b=d !", "a=abc b=d *11", "a=abcxyz b=dd *22", "a=abc ! b=d"} {
		v := made(100, s)
		want := told(v)
		one, _, _ := v.Read("a")
		two, _, _ := v.Read("a")
		for i := range one[:cap(one)] {
			one[:cap(one)][i] = 'z'
		}
		if string(two) != "abc" {
			t.Errorf("P2: %s: two answers share memory: %q", s, two)
		}
		_ = append(two, "more"...)
		names, more := v.Names(), v.Names()
		for i := range names[:cap(names)] {
			names[:cap(names)][i] = "over"
		}
		if !slices.Equal(more, []string{"a", "b"}) {
			t.Errorf("P2: %s: two answers share memory: %q", s, more)
		}
		wanted(t, "P2", s, told(v), want)
		v.Crash(nil)
		if b, is, _ := v.Read("a"); is && string(b) != "abc" {
			t.Errorf("P2: %s: what was flushed: %q", s, b)
		}
	}
}

// P2: a half that a crash kept is cut from what was written: to write more behind what is read of it touches nothing.
func TestHalfMemory(t *testing.T) {
	v := made(100, "a=abcd *2")
	b, _, _ := v.Read("a")
	_ = append(b, 'x', 'y')
	wanted(t, "P2", "a half", all(v), "a=ab")
	v.Crash([]int{1})
	wanted(t, "P2", "a half", all(v), "a=ab")
}

// P2: no list and an empty one are the same.
func TestEmptyLists(t *testing.T) {
	for _, none := range [][]byte{nil, {}} {
		for _, keep := range [][]int{nil, {}} {
			v := vfs.New(10)
			if v.Write("a", none) != api.OK || v.Flush() != api.OK || v.Write("b", none) != api.OK {
				t.Error("P2: Write of nothing")
			}
			v.Crash(keep)
			wanted(t, "P2", "nothing", all(v), "a=")
		}
	}
	if l := vfs.New(10).Names(); len(l) != 0 {
		t.Errorf("P2: %q", l)
	}
}

// P3: the same calls in the same order answer the same.
func TestSame(t *testing.T) {
	for seed := range uint64(300) {
		var got [2]string
		for i := range got {
			d := &die{seed}
			v := vfs.New(30)
			p := newPlain(30)
			for range 60 {
				what, _ := d.thrown(v, p)
				got[i] += what + told(v)
			}
		}
		wanted(t, "P3", fmt.Sprint(seed), got[1], got[0])
	}
}

// P7: several files, side by side, do not touch one another, though what is done to them is the same.
func TestSideBySide(t *testing.T) {
	v, w := vfs.New(10), vfs.New(20)
	b := []byte("123")
	v.Write("a", b)
	wanted(t, "P7", "the other one", told(w), "0 of 20, 0, false:")
	w.Write("a", b)
	w.Write("b", b)
	v.Stop(1)
	if w.Flush() != api.OK || v.Flush() != api.ErrDead || w.Dead() {
		t.Error("P7: Stop")
	}
	v.Crash(nil)
	wanted(t, "P7", "the one", told(v), "0 of 10, 2, false:")
	wanted(t, "P7", "the other one", all(w), "a=123 b=123")
	w.Crash(nil)
	wanted(t, "P7", "the other one", all(w), "a=123 b=123")
}

// P7: each of several goroutines has files of its own.
func TestAtOnce(t *testing.T) {
	const row = "a=12 ! b=345 -a c=6 *101 ?3 d=7 -b e=8 *111 !"
	want := told(made(50, row))
	done := make(chan string)
	for range 8 {
		go func() {
			s := ""
			for range 50 {
				if got := told(made(50, row)); got != want {
					s = got
				}
			}
			done <- s
		}()
	}
	for range 8 {
		if s := <-done; s != "" {
			t.Errorf("P3, P7: %s, not %s", s, want)
		}
	}
	if strings.Count(want, "=") == 0 {
		t.Error("the test's own")
	}
}
