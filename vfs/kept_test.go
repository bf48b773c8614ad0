package vfs_test

import (
	"strings"
	"testing"

	"cadence/api"
	"cadence/vfs"
)

// P1503: what was flushed stays, whatever a crash keeps, wherever the power goes, if it is not written over, or removed.
func TestFlushedStays(t *testing.T) {
	steps := strings.Fields("b=1 -b c=2 b=3 ! b=4 -c -b")
	for n := range len(steps) + 1 {
		for _, keep := range keeps(4, 3) {
			v := made(20, "a=123 e= d=4 !")
			v.Stop(n)
			do(v, strings.Join(steps, " "))
			v.Crash(keep)
			for name, want := range map[string]string{"a": "123", "e": "", "d": "4"} {
				if b, is, e := v.Read(name); string(b) != want || !is || e != api.OK {
					t.Fatalf("P1503: Stop(%d), Crash(%v): %s: %q, %t, %v", n, keep, name, b, is, e)
				}
			}
		}
	}
}

// P1503: a file that was written over, or removed, is as it was flushed, or as one of these, or as the half of one, has it.
func TestOneOf(t *testing.T) {
	for _, keep := range keeps(3, 4) {
		v := made(20, "a=123 ! a=4567 -a a=89")
		v.Crash(keep)
		if got := all(v); !strings.Contains("|a=123|a=4567|a=45||a=89|a=8|", "|"+got+"|") {
			t.Errorf("P1503: Crash(%v): %s", keep, got)
		}
	}
}

// P1503: whatever is done. What was flushed, and is not touched from then on, is there in the end; through crashes too.
func TestFlushedStaysThrown(t *testing.T) {
	d := &die{153}
	for range 3000 {
		v, p := vfs.New(60), newPlain(60)
		for range d.of(20) {
			d.thrown(v, p)
		}
		v.Crash(nil)
		if v.Write("stays", []byte("so")) == api.ErrFull {
			continue
		}
		v.Flush()
		for range 40 {
			d.thrown(v, p)
		}
		v.Crash(d.keep())
		if b, is, e := v.Read("stays"); string(b) != "so" || !is || e != api.OK {
			t.Fatalf("P1503: %q, %t, %v", b, is, e)
		}
	}
}

// T4: a file that is written and flushed is, wherever the power goes, as ahead of it, or as behind it, or a half; as behind it, if the Flush answered OK.
func TestWriteAndFlush(t *testing.T) {
	for n := range 4 {
		for k := range 4 {
			v := made(20, "a=12 !")
			v.Stop(n)
			errors := do(v, "a=3456 !")
			v.Crash([]int{k})
			want := []string{"a=12", "a=3456", "a=34", "a=12"}[k]
			if errors == "ok ok" {
				want = "a=3456"
			}
			wanted(t, "T4", errors, all(v), want)
		}
	}
}
