package vfs_test

import (
	"fmt"
	"math"
	"slices"
	"strconv"
	"strings"
	"testing"

	"cadence/api"
	"cadence/vfs"
)

// P1501: New, Room; no files.
func TestNew(t *testing.T) {
	for _, x := range [][2]int{{0, 0}, {1, 1}, {10, 10}, {20000, 20000}, {1<<20 - 1, 1<<20 - 1}, {1 << 20, 1 << 20}, {1<<20 + 1, 1 << 20}, {1 << 32, 1 << 20}, {1<<32 + 5, 1 << 20}, {math.MaxInt, 1 << 20}, {-1, 0}, {-1 << 20, 0}, {-1<<32 + 5, 0}, {math.MinInt, 0}} {
		v := vfs.New(x[0])
		wanted(t, "P1501", fmt.Sprintf("New(%d)", x[0]), told(v), fmt.Sprintf("0 of %d, 0, false:", x[1]))
		if v.Write("a", make([]byte, x[1]+1)) != api.ErrFull || v.Write("a", make([]byte, x[1])) != api.OK || v.Used() != x[1] || v.Room() != x[1] {
			t.Errorf("P1501: New(%d): %d of %d", x[0], v.Used(), v.Room())
		}
	}
}

// P1501: what is done to files, what it answers, which files are there then.
func TestFiles(t *testing.T) {
	n20, n21 := strings.Repeat("n", 20), strings.Repeat("n", 21)
	for _, x := range []struct{ s, errors, files string }{
		{"", "", ""}, {"a=1", "ok", "a=1"}, {"a=", "ok", "a="}, {"b=2 a=1 B=3", "ok ok ok", "B=3 a=1 b=2"}, {"a=123 a=45", "ok ok", "a=45"}, {"a=1 a=2345", "ok ok", "a=2345"}, {"a=123 a=", "ok ok", "a="},
		{"-a", "none", ""}, {"a=1 -a", "ok ok", ""}, {"a=1 -a -a", "ok ok none", ""}, {"a=1 b=2 -a", "ok ok ok", "b=2"}, {"a=1 -b", "ok none", "a=1"}, {"a=1 -a a=2", "ok ok ok", "a=2"}, {"a= -a -a", "ok ok none", ""},
		{"!", "ok", ""}, {"! ! !", "ok ok ok", ""}, {"a=1 ! a=2 !", "ok ok ok ok", "a=2"}, {"a=1 ! -a !", "ok ok ok ok", ""}, {"a=1 ! b=2", "ok ok ok", "a=1 b=2"}, {"a=1 ! -a -a", "ok ok ok none", ""},
		{"a=1234567890", "ok", "a=1234567890"}, {"a=1234567890x", "full", ""}, {"a=12345 b=67890", "ok ok", "a=12345 b=67890"}, {"a=12345 b=67890x", "ok full", "a=12345"}, {"a=12345 b=67890 c=x d=", "ok ok full ok", "a=12345 b=67890 d="},
		{"a=1234567890 a=0987654321", "ok ok", "a=0987654321"}, {"a=1234567890 a=0987654321x", "ok full", "a=1234567890"}, {"a=12345 b=67890 a=123456", "ok ok full", "a=12345 b=67890"}, {"a=12345 b=67890 a=1234 b=098765", "ok ok ok ok", "a=1234 b=098765"}, {"a=1234567890 -a b=0987654321", "ok ok ok", "b=0987654321"}, {"a=1234567890 ! -a b=0987654321 !", "ok ok ok ok ok", "b=0987654321"},
		{"=", "name", ""}, {"=1", "name", ""}, {n20 + "=1", "ok", n20 + "=1"}, {n21 + "=1", "name", ""}, {n20 + "=1 " + n21 + "=2", "ok name", n20 + "=1"}, {n20 + "=1 -" + n21 + " -" + n20, "ok none ok", ""}, {"-", "none", ""}, {"-" + n21, "none", ""},
		{"=12345678901", "name", ""}, {n21 + "=12345678901", "name", ""},
		{"a=1 *", "ok", ""}, {"?1 a=1 a=2 -a ! = =12345678901 -b", "dead dead dead dead dead dead dead", ""},
	} {
		v := vfs.New(10)
		wanted(t, "P1501", x.s, do(v, x.s), x.errors)
		if !v.Dead() {
			wanted(t, "P1501", x.s, all(v), x.files)
		}
	}
}

// P1501: Read of files that are none; of one that has no bytes.
func TestRead(t *testing.T) {
	v := made(10, "a=1 e=")
	for _, x := range []struct {
		name, b string
		is      bool
	}{{"a", "1", true}, {"e", "", true}, {"b", "", false}, {"A", "", false}, {"", "", false}, {"aa", "", false}, {strings.Repeat("n", 20), "", false}, {strings.Repeat("n", 21), "", false}, {strings.Repeat("n", 100000), "", false}} {
		if b, is, e := v.Read(x.name); string(b) != x.b || is != x.is || e != api.OK {
			t.Errorf("P1501: Read(%.30q): %q, %t, %v", x.name, b, is, e)
		}
	}
	do(v, "?1 !")
	for _, name := range []string{"a", "e", "b", "", strings.Repeat("n", 21)} {
		if b, is, e := v.Read(name); b != nil || is || e != api.ErrDead {
			t.Errorf("P1501, P4: Read(%q) without power: %q, %t, %v", name, b, is, e)
		}
	}
}

// P1501: names and bytes may be any; Names are in order, by their bytes.
func TestNames(t *testing.T) {
	v := vfs.New(1 << 20)
	var l []string
	for n := range 256 {
		for _, name := range []string{string([]byte{byte(n)}), string([]byte{byte(255 - n), byte(n)}), "é" + string([]byte{byte(n)}), strings.Repeat(string([]byte{byte(n)}), 20)} {
			l = append(l, name)
			if e := v.Write(name, []byte(name+"\x00"+name)); e != api.OK {
				t.Fatalf("P1501: %q: %v", name, e)
			}
		}
		if v.Write(strings.Repeat(string([]byte{byte(n)}), 21), nil) != api.ErrName {
			t.Fatalf("P1501: 21 times %d", n)
		}
	}
	slices.Sort(l)
	if got := v.Names(); !slices.Equal(got, slices.Compact(l)) {
		t.Errorf("P1501: %q", got)
	}
	for _, name := range l {
		if b, is, e := v.Read(name); string(b) != name+"\x00"+name || !is || e != api.OK {
			t.Errorf("P1501: %q: %q, %t, %v", name, b, is, e)
		}
	}
}

// P1501: a name has bytes, not runes.
func TestNameBytes(t *testing.T) {
	v := vfs.New(10)
	if v.Write(strings.Repeat("é", 10), nil) != api.OK || v.Write(strings.Repeat("é", 11), nil) != api.ErrName || v.Write(strings.Repeat("é", 10)+"x", nil) != api.ErrName {
		t.Error("P1501: runes")
	}
}

// P1501: Used and Ops, step by step; what is refused is not counted.
func TestUsed(t *testing.T) {
	v := vfs.New(10)
	for i, x := range []struct {
		s         string
		used, ops int
	}{{"a=123", 3, 1}, {"b=4567", 7, 2}, {"c=8901", 7, 2}, {"c=890", 10, 3}, {"a=12", 9, 4}, {"-b", 5, 5}, {"-b", 5, 5}, {"!", 5, 6}, {"=1", 5, 6}, {"c=", 2, 7}, {"-c", 2, 8}, {"d=12345678", 10, 9}, {"?2 a=12", 10, 10}, {"!", 10, 11}, {"!", 10, 11}, {"-a", 10, 11}, {"d=", 10, 11}, {"*", 5, 11}, {"!", 5, 12}, {"-a -c", 0, 14}, {"! !", 0, 16}} {
		do(v, x.s)
		if v.Used() != x.used || v.Ops() != x.ops || v.Room() != 10 {
			t.Errorf("P1501: %d: %s: %d of %d, %d", i, x.s, v.Used(), v.Room(), v.Ops())
		}
	}
}

// P1501, P6: the errors of a Write, all of which apply, in their order.
func TestErrors(t *testing.T) {
	v := made(2, "a=1")
	long := strings.Repeat("n", 21)
	if v.Write(long, make([]byte, 3)) != api.ErrName || v.Write("", make([]byte, 3)) != api.ErrName || v.Write("b", make([]byte, 3)) != api.ErrFull || v.Write("b", make([]byte, 2)) != api.ErrFull {
		t.Error("P1501, P6: with power")
	}
	do(v, "?1 b=2")
	if v.Write(long, make([]byte, 3)) != api.ErrDead || v.Write("c", make([]byte, 3)) != api.ErrDead || v.Write("a", nil) != api.ErrDead || v.Remove("c") != api.ErrDead || v.Remove("a") != api.ErrDead || v.Flush() != api.ErrDead {
		t.Error("P1501, P6: without power")
	}
}

// P5: what is refused changes nothing, neither now nor behind a crash.
func TestRefused(t *testing.T) {
	for _, power := range []string{"", "?1 a=4"} {
		for _, keep := range []string{"*", "*1", "*11", "*111", "*1111"} {
			v, w := made(5, "a=1 ! b=2 ?3"), made(5, "a=1 ! b=2 ?3")
			do(v, power)
			do(w, power)
			want := told(v)
			wanted(t, "P5", "what is asked", told(v), want)
			for _, x := range []string{"=1", strings.Repeat("n", 21) + "=1", "a=12345", "c=1234", "-c", "-"} {
				do(v, x)
				wanted(t, "P5", x, told(v), want)
			}
			v.Read("a")
			v.Read("c")
			do(v, "c=3 -b ! !")
			do(w, "c=3 -b ! !")
			wanted(t, "P5", "what is done behind", told(v), told(w))
			do(v, keep)
			do(w, keep)
			wanted(t, "P5", "a crash behind", told(v), told(w))
		}
	}
}

// P1501, P1502, P1: files without bytes may be more than the room has bytes, and each Write, Flush, Crash still takes few steps.
func TestMany(t *testing.T) {
	v := vfs.New(0)
	const many = 100000
	for i := range many {
		if e := v.Write(strconv.Itoa(i), nil); e != api.OK || v.Flush() != api.OK {
			t.Fatalf("P1501: %d: %v", i, e)
		}
	}
	if len(v.Names()) != many || v.Used() != 0 || v.Write("x", []byte("x")) != api.ErrFull {
		t.Error("P1501: many files")
	}
	for i := range many {
		e := v.Remove(strconv.Itoa(i))
		v.Crash([]int{i % 2})
		if e != api.OK {
			t.Fatalf("P1501: %d: %v", i, e)
		}
	}
	if len(v.Names()) != many/2 {
		t.Errorf("P1502: %d files", len(v.Names()))
	}
}

// P1501, P1502: a file that takes all room.
func TestGreat(t *testing.T) {
	b := make([]byte, 1<<20)
	b[1<<20-1] = 7
	v := vfs.New(1 << 20)
	if v.Write("a", b) != api.OK || v.Write("b", b[:1]) != api.ErrFull || v.Flush() != api.OK || v.Write("a", b) != api.OK {
		t.Error("P1501: ErrFull")
	}
	v.Crash([]int{2})
	if got, _, _ := v.Read("a"); !slices.Equal(got, b[:1<<19]) || v.Used() != 1<<19 {
		t.Errorf("P1502: %d bytes", len(got))
	}
}

// P1: files that New did not make are there, and have no room.
func TestNotMade(t *testing.T) {
	v := &vfs.Vfs{}
	wanted(t, "P1", "no files", told(v), told(vfs.New(0)))
	wanted(t, "P1", "no files", do(v, "a=1 a= -b ! ?1 -a *1"), "full ok none ok dead")
	wanted(t, "P1", "no files", told(v), "0 of 0, 3, false:")
	new(vfs.Vfs).Crash([]int{1, 2})
}
