package vfs_test

import (
	"fmt"
	"math"
	"slices"
	"testing"

	"cadence/vfs"
)

// P1502: Crash of what was done.
func TestCrash(t *testing.T) {
	for _, x := range []struct{ s, files string }{
		{"*", ""}, {"a=1 *", ""}, {"a=1 *1", "a=1"}, {"a=1 *0", ""}, {"a=1 *3", ""}, {"a=1 *01", ""}, {"a=1 *11111", "a=1"}, {"! *1", ""},
		{"a=1 ! *", "a=1"}, {"a=1 ! *0", "a=1"}, {"a=1 ! a=2 *", "a=1"}, {"a=1 ! a=2 *1", "a=2"}, {"a=1 ! -a *", "a=1"}, {"a=1 ! -a *1", ""}, {"a=1 ! -a *2", ""}, {"a=1 ! -a *3", "a=1"},
		{"a= *2", "a="}, {"a=1 *2", "a="}, {"a=12 *2", "a=1"}, {"a=123 *2", "a=1"}, {"a=1234 *2", "a=12"}, {"a=12345 *2", "a=12"}, {"a=9 ! a=12345 *2", "a=12"}, {"a=98765 ! a=1 *2", "a="},
		{"a=1 a=2 *10", "a=1"}, {"a=1 a=2 *01", "a=2"}, {"a=1 a=2 *11", "a=2"}, {"a=12 a=34 *12", "a=3"}, {"a=12 a=34 *21", "a=34"}, {"a=12 a=34 *20", "a=1"},
		{"a=1 -a *11", ""}, {"a=1 -a *10", "a=1"}, {"a=1 -a *01", ""}, {"a=1 ! -a a=2 *01", "a=2"}, {"a=1 ! -a a=2 *10", ""}, {"a=1 ! -a a=2 *00", "a=1"}, {"a=1 ! -a a=23 *22", "a=2"}, {"a=1 -a a=2 -a *1110", "a=2"}, {"a=1 -a a=2 -a *1101", ""}, {"a=1 -a a=2 -a *0010", "a=2"},
		{"a=1 ! b=2 ! c=3 *", "a=1 b=2"}, {"a=1 ! b=2 ! c=3 *1", "a=1 b=2 c=3"}, {"a=1 ! b=2 ! c=3 d=4 *01", "a=1 b=2 d=4"},
		{"a=1 *1 b=2 *01", "a=1"}, {"a=1 *1 b=2 *1", "a=1 b=2"}, {"a=1 * b=2 *1", "b=2"}, {"a=1 b=2 *01 -b *0", "b=2"}, {"a=1 b=2 *01 -b *1", ""}, {"a=1 *1 -a * *1", "a=1"},
		{"a=1 =2 -b b=12345678901 c=3 *01", "c=3"}, {"a=1 ?1 ! c=3 *11", "a=1"}, {"a=1 ?1 b=2 c=3 *011", "b=2"},
	} {
		v := made(10, x.s)
		wanted(t, "P1502", x.s, all(v), x.files)
		if v.Dead() {
			t.Errorf("P1502: %s: dead", x.s)
		}
	}
}

// P1502: whatever marks; what is not 1 and not 2 is as 0, and all is flushed behind it.
func TestCrashKeeps(t *testing.T) {
	const ahead, row = "a=12345 b=6", "a=1 -b c=234 a=56 c=7"
	for _, keep := range slices.Concat(keeps(5, 3), keeps(4, 3), keeps(2, 3), keeps(7, 2)) {
		v, p := made(20, ahead+" ! "+row), newPlain(20)
		for _, x := range [][2]string{{"a", "12345"}, {"b", "6"}} {
			p.write(x[0], x[1])
		}
		p.flush()
		p.write("a", "1")
		p.remove("b")
		p.write("c", "234")
		p.write("a", "56")
		p.write("c", "7")
		if told(v) != p.told() {
			t.Fatalf("P1501: %s, not %s", told(v), p.told())
		}
		odd := slices.Clone(keep)
		for i, k := range odd {
			if k == 0 {
				odd[i] = []int{3, -1, -2, 257, 1<<32 + 1, 1<<32 + 2, math.MinInt, math.MaxInt, math.MinInt + 1}[i]
			}
		}
		v.Crash(odd)
		p.crash(keep)
		if told(v) != p.told() {
			t.Fatalf("P1502: Crash(%v): %s, not %s", odd, told(v), p.told())
		}
		want := told(v)
		for _, again := range [][]int{nil, {}, {1, 1, 1, 1, 1}, {2, 2, 2, 2, 2}} {
			v.Crash(again)
			wanted(t, "P1502", fmt.Sprintf("Crash(%v) behind Crash(%v)", again, keep), told(v), want)
		}
	}
}

// P1502: a half is rounded down, whatever the length.
func TestCrashHalf(t *testing.T) {
	b := make([]byte, 300)
	for i := range b {
		b[i] = byte(i)
	}
	for n := range len(b) {
		v := vfs.New(1000)
		v.Write("b", b)
		v.Flush()
		v.Write("a", b[:n])
		v.Write("b", b[n:])
		v.Crash([]int{2, 2})
		one, is, _ := v.Read("a")
		two, _, _ := v.Read("b")
		if !slices.Equal(one, b[:n/2]) || !is || !slices.Equal(two, b[n:n+(len(b)-n)/2]) || v.Used() != n/2+(len(b)-n)/2 {
			t.Errorf("P1502: %d bytes: %d, %d", n, len(one), len(two))
		}
	}
}

// P1502: what is done then may be more than room has, as it is not asked again; then a Write is ErrFull, that leaves it so.
func TestCrashOver(t *testing.T) {
	v := made(10, "a=12345678 ! -a b=12345678 *01")
	wanted(t, "P1502", "both stay", all(v), "a=12345678 b=12345678")
	if v.Used() != 16 || v.Room() != 10 || v.Ops() != 4 {
		t.Errorf("P1502: %s", told(v))
	}
	wanted(t, "P1501", "ErrFull", do(v, "c= a=12345678 a=123 a=12 c=1 c= -b c=12345678 c=123456789"), "full full full ok full ok ok ok full")
	wanted(t, "P1501", "files", all(v), "a=12 c=12345678")
}
