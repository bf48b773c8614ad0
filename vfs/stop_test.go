package vfs_test

import (
	"fmt"
	"math"
	"strings"
	"testing"

	"cadence/api"
	"cadence/vfs"
)

// P1501: the power goes at a Write, a Remove, which are done, or at a Flush, which is not.
func TestStop(t *testing.T) {
	for _, x := range []struct{ s, errors, now, kept string }{
		{"?1 a=12", "dead", `["a"] 2 1`, "a=12"}, {"?1 a=12 !", "dead dead", `["a"] 2 1`, "a=12"}, {"?1 !", "dead", `[] 0 1`, ""}, {"a=1 ?1 !", "ok dead", `["a"] 1 2`, "a=1"}, {"a=1 ! ?1 -a", "ok ok dead", `[] 0 3`, ""}, {"a=1 ! ?1 a=23", "ok ok dead", `["a"] 2 3`, "a=23"}, {"a=1 ! ?1 !", "ok ok dead", `["a"] 1 3`, "a=1"},
		{"?2 a=1 b=23", "ok dead", `["a" "b"] 3 2`, "a=1 b=23"}, {"?2 a=1 ! b=2", "ok dead dead", `["a"] 1 2`, "a=1"}, {"?3 a=1 ! b=2 c=3", "ok ok dead dead", `["a" "b"] 2 3`, "a=1 b=2"}, {"?3 a=1 ! -a !", "ok ok dead dead", `[] 0 3`, ""},
		{"?2 a=1 =1 a=12345678901 -b -b", "ok name full none none", "", ""}, {"?2 a=1 =1 a=12345678901 -b -a", "ok name full none dead", `[] 0 2`, ""}, {"?1 =1 -b a=12345678901 a=1", "name none full dead", `["a"] 1 1`, "a=1"},
		{"?0 a=1 ! -a !", "ok ok ok ok", "", ""}, {"?1 ?0 a=1 ! -a !", "ok ok ok ok", "", ""}, {"?9 ?1 a=1 !", "dead dead", `["a"] 1 1`, "a=1"}, {"?1 ?2 a=1 !", "ok dead", `["a"] 1 2`, "a=1"}, {"?2 a=1 ?2 b=2 c=3 d=4", "ok ok dead dead", `["a" "b" "c"] 3 3`, "a=1 b=2 c=3"}, {"?3 a=1 b=2 ?0 c=3 !", "ok ok ok ok", "", ""},
		{"?1 a=1 ?0 b=2", "dead dead", `["a"] 1 1`, "a=1"}, {"?1 a=1 ?5 b=2 !", "dead dead dead", `["a"] 1 1`, "a=1"}, {"?1 * a=1 !", "ok ok", "", ""}, {"?2 a=1 * b=2 ! !", "ok ok ok ok", "", ""}, {"?1 a=1 ?1 * b=2 !", "dead ok ok", "", ""}, {"?1 a=1 * ?1 b=2 !", "dead dead dead", `["b"] 1 2`, "b=2"},
	} {
		v := vfs.New(10)
		wanted(t, "P1501", x.s, do(v, x.s), x.errors)
		if v.Dead() != (x.now != "") {
			t.Fatalf("P1501: %s: %t", x.s, v.Dead())
		}
		if v.Dead() {
			wanted(t, "P1501", x.s, fmt.Sprintf("%q %d %d", v.Names(), v.Used(), v.Ops()), x.now)
			ops := v.Ops()
			v.Crash([]int{1, 1, 1, 1})
			wanted(t, "P1502", x.s, all(v), x.kept)
			if v.Dead() || v.Ops() != ops || v.Room() != 10 {
				t.Errorf("P1502: %s: %s", x.s, told(v))
			}
			wanted(t, "P1502", x.s, do(v, "p= ! -p !"), "ok ok ok ok")
		}
	}
}

// P1501: each of a long row of steps is stopped once; those ahead are done, those behind are not.
func TestStopAtEach(t *testing.T) {
	const row = "a=1 b=22 ! -a c=3 a=4 ! -b -c !"
	steps := strings.Fields(row)
	for n := 1; n <= len(steps)+2; n++ {
		v, ahead := vfs.New(10), vfs.New(10)
		v.Stop(n)
		wanted(t, "P1501", fmt.Sprint(n), do(v, row), strings.TrimSpace(strings.Repeat("ok ", min(n-1, len(steps)))+strings.Repeat("dead ", max(len(steps)-n+1, 0))))
		do(ahead, strings.Join(steps[:min(n, len(steps))], " "))
		if v.Dead() != (n <= len(steps)) || v.Used() != ahead.Used() || v.Ops() != ahead.Ops() || fmt.Sprint(v.Names()) != fmt.Sprint(ahead.Names()) {
			t.Errorf("P1501: %d: %s, not %s", n, told(v), told(ahead))
		}
		if n <= len(steps) && steps[n-1] == "!" {
			ahead = made(10, strings.Join(steps[:n-1], " "))
		}
		v.Crash(nil)
		ahead.Crash(nil)
		wanted(t, "P1502", fmt.Sprint(n), all(v), all(ahead))
	}
}

// P1501, P9: numbers that are none, and far ones.
func TestStopNumbers(t *testing.T) {
	for _, n := range []int{0, -1, -2, -1 << 32, -1<<32 + 1, math.MinInt, math.MinInt + 1, 1 << 20, 1 << 32, 1<<32 + 1, math.MaxInt} {
		for _, ahead := range []string{"", "?1", "?3"} {
			v := made(10, ahead)
			v.Stop(n)
			for range 1000 {
				if v.Write("a", nil) != api.OK || v.Remove("a") != api.OK || v.Flush() != api.OK || v.Dead() {
					t.Fatalf("P1501: Stop(%d)", n)
				}
			}
		}
	}
	v := vfs.New(0)
	v.Stop(1000)
	for range 999 {
		if v.Flush() != api.OK {
			t.Fatal("P1501: Stop(1000)")
		}
	}
	if v.Flush() != api.ErrDead || v.Ops() != 1000 {
		t.Errorf("P1501: Stop(1000): %d", v.Ops())
	}
}

// P1501: what only asks is not one of those that a Stop counts.
func TestStopAndAsk(t *testing.T) {
	v := made(10, "a=1 ?1")
	for range 3 {
		v.Read("a")
		v.Read("b")
		v.Names()
		v.Used()
		v.Room()
		v.Ops()
		v.Dead()
	}
	if v.Dead() || v.Ops() != 1 || v.Flush() != api.ErrDead || !v.Dead() || v.Ops() != 2 {
		t.Errorf("P1501: %s", told(v))
	}
}
