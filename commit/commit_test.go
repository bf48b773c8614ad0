package commit_test

import (
	"fmt"
	"strings"
	"testing"

	"cadence/api"
	"cadence/commit"
	"cadence/vfs"
)

// P1601: what files may not be; nothing is done then.
func TestRefused(t *testing.T) {
	n20, n21 := strings.Repeat("n", 20), strings.Repeat("n", 21)
	x8000, x8001 := strings.Repeat("x", 8000), strings.Repeat("x", 8001)
	for _, x := range []struct {
		s    string
		want api.Errno
	}{
		{"", api.ErrArg}, {"a=", api.OK}, {"a b c d e f g h", api.OK}, {"a b c d e f g h i", api.ErrArg}, {strings.Repeat("a ", 9), api.ErrArg}, {strings.Repeat("mark=1 ", 100000), api.ErrArg},
		{"=", api.ErrName}, {"=1", api.ErrName}, {n20 + "=1", api.OK}, {n21 + "=1", api.ErrName}, {strings.Repeat("n", 100000), api.ErrName}, {strings.Repeat("é", 10), api.OK}, {strings.Repeat("é", 11), api.ErrName},
		{"journal=1", api.ErrName}, {"mark=1", api.ErrName}, {"a b journal", api.ErrName}, {"a b c mark d", api.ErrName}, {"Journal MARK journals mar k journa marks", api.OK}, {"\x00 \xff \n", api.OK},
		{"a a", api.ErrTwice}, {"a=1 a=1", api.ErrTwice}, {"a b c d e f g a", api.ErrTwice}, {"a b b", api.ErrTwice}, {"a A", api.OK}, {"a aa", api.OK},
		{"a=" + x8000, api.OK}, {"a=" + x8001, api.ErrLong}, {"a b=" + x8001, api.ErrLong}, {"a=" + strings.Repeat("x", 65535), api.ErrLong}, {"a=" + strings.Repeat("x", 65536), api.ErrLong}, {"a=" + strings.Repeat("x", 65537), api.ErrLong}, {"a=" + strings.Repeat("x", 1<<20), api.ErrLong},
	} {
		for _, room := range []int{1 << 20, 12} {
			v := begun(t, room, "a=old b=older")
			want, was := x.want, told(v)
			if want == api.OK && room == 12 {
				want = api.ErrFull
			}
			if e := commit.Commit(v, files(x.s)); e != want || e != api.OK && told(v) != was {
				t.Errorf("P1601: %.60q: %v, not %v: %.200s", x.s, e, want, told(v))
			}
		}
	}
}

// P1601, P6: where several errors apply; of files the first one that has any counts.
func TestErrorsInOrder(t *testing.T) {
	n21, x8001 := strings.Repeat("n", 21), strings.Repeat("x", 8001)
	for _, x := range []struct {
		s          string
		with, less api.Errno // with power, without
	}{
		{strings.Repeat("mark="+x8001+" ", 9), api.ErrArg, api.ErrArg}, {"", api.ErrArg, api.ErrArg},
		{"mark=" + x8001, api.ErrName, api.ErrName}, {"mark mark", api.ErrName, api.ErrName}, {n21 + "=" + x8001, api.ErrName, api.ErrName},
		{"a=1 a=" + x8001, api.ErrTwice, api.ErrTwice}, {"a=1 a=2 mark", api.ErrTwice, api.ErrTwice}, {"a b a=" + x8001 + " mark", api.ErrTwice, api.ErrTwice},
		{"a=" + x8001 + " a", api.ErrLong, api.ErrLong}, {"a=" + x8001 + " mark", api.ErrLong, api.ErrLong}, {"a mark b=" + x8001, api.ErrName, api.ErrName}, {"a b=" + x8001 + " a", api.ErrLong, api.ErrLong},
		{"a=12345678901234567890", api.ErrFull, api.ErrDead}, {"a=", api.OK, api.ErrDead},
	} {
		if e := commit.Commit(begun(t, 20, "b=1"), files(x.s)); e != x.with {
			t.Errorf("P1601, P6: %.60q: %v, not %v", x.s, e, x.with)
		}
		v := dead(begun(t, 20, "b=1"))
		was := told(v)
		if e := commit.Commit(v, files(x.s)); e != x.less || told(v) != was {
			t.Errorf("P1601, P6: %.60q without power: %v, not %v", x.s, e, x.less)
		}
	}
}

// P1601: how much room there must be. The mark has no bytes; what a file loses is no room; a journal that is there already counts with all that is used.
func TestRoom(t *testing.T) {
	for _, x := range []struct {
		was, l string
		need   int
	}{
		{"", "a=", 6}, {"", "a=1", 8}, {"", "ab=123", 1 + 2 + 2 + 2 + 3 + 3}, {"", "a= b= c= d= e= f= g= h=", 41}, {"", "a=1 b=22", 1 + 6 + 7 + 3},
		{"a=1", "a=2", 1 + 7}, {"a=123", "a=45", 3 + 8}, {"a=123", "a=", 3 + 6}, {"a=123", "a=4567", 3 + 10 + 1}, {"z=1234", "a=5", 4 + 7 + 1},
		{"a=123 b=1", "a= b=1234", 4 + 15 + 3}, {"a=123 b=1", "b=1234 a=", 4 + 15 + 3}, {"a=123 b=456", "a= b=", 6 + 11}, {"a=123 b=456", "b=7", 6 + 7},
		{"journal=12345678901", "a=1", 11 + 7 + 1}, {"mark=123", "a=1", 3 + 7 + 1}, {"journal=12345678901 a=1", "a=2", 12 + 7},
		{"", "a=" + strings.Repeat("x", 8000), 16006}, {"a=" + strings.Repeat("y", 7999), "a=" + strings.Repeat("x", 8000), 7999 + 8006 + 1},
	} {
		if x.need != len(journalOf(files(x.l)))+used(t, x.was)+gain(x.was, x.l) {
			t.Fatalf("the test's own: %.60q, %.60q", x.was, x.l)
		}
		v := begun(t, x.need, x.was)
		if e := commit.Commit(v, files(x.l)); e != api.OK || v.Ops() != begun(t, x.need, x.was).Ops()+9+len(files(x.l)) {
			t.Errorf("P1601: %.60q, %.60q: %d: %v: %.200s", x.was, x.l, x.need, e, told(v))
		}
		v = begun(t, x.need-1, x.was)
		was := told(v)
		if e := commit.Commit(v, files(x.l)); e != api.ErrFull || told(v) != was {
			t.Errorf("P1601: %.60q, %.60q: %d: %v: %.200s", x.was, x.l, x.need-1, e, told(v))
		}
	}
}

func used(t *testing.T, s string) int { return begun(t, 1<<20, s).Used() }

// gain is how many bytes the files of l have more than those of was; one by one, no less than 0.
func gain(was, l string) int {
	sum := 0
	for _, x := range files(l) {
		n := len(x.B)
		for _, y := range files(was) {
			if y.Name == x.Name {
				n -= len(y.B)
			}
		}
		sum += max(n, 0)
	}
	return sum
}

// P1601: it is what room is left now that counts, through what a crash keeps, too, though it may be more than there is.
func TestRoomBehindCrash(t *testing.T) {
	v := begun(t, 20, "a=1234567890")
	put(v, "-a b=12345678901234567890")
	v.Crash([]int{0, 1})
	was := told(v)
	if e := commit.Commit(v, files("a= b=")); e != api.ErrFull || v.Used() != 30 || told(v) != was {
		t.Errorf("P1601: %v: %s", e, told(v))
	}
}

// P1601: what is there then. Files that l has not stay.
func TestCommit(t *testing.T) {
	for _, x := range []struct{ was, l, want string }{
		{"", "a=1", "a=1"}, {"", "a=", "a="}, {"a=1", "a=2", "a=2"}, {"a=123", "a=", "a="}, {"a=1", "b=2", "a=1 b=2"}, {"a=1 b=2 c=3", "c=4 a=5", "a=5 b=2 c=4"}, {"a=1", "a=1", "a=1"},
		{"", "h=8 g=7 f=6 e=5 d=4 c=3 b=2 a=1", "a=1 b=2 c=3 d=4 e=5 f=6 g=7 h=8"}, {"z=1", "\x00=\x00\x01 \xff=\xff", "\x00=\x00\x01 z=1 \xff=\xff"},
		{"mark=1 journal=2", "a=1", "a=1"}, {"mark=", "a=1", "a=1"}, {"journal=", "a=1", "a=1"},
	} {
		v := begun(t, 200, x.was)
		ops := v.Ops()
		e := commit.Commit(v, files(x.l))
		wanted(t, "P1601", x.l, all(v), x.want)
		if e != api.OK || v.Ops()-ops != 9+len(files(x.l)) || v.Dead() {
			t.Errorf("P1601: %s: %v, %d", x.l, e, v.Ops()-ops)
		}
		v.Crash(nil)
		wanted(t, "P1601", x.l+", behind a crash", all(v), x.want)
	}
}

// P1601: bytes of any kind, and as many as there may be.
func TestCommitGreat(t *testing.T) {
	v := vfs.New(1 << 20)
	var l []commit.File
	for k := range 8 {
		b := make([]byte, 8000)
		for i := range b {
			b[i] = byte(i*(k+3) ^ i>>8)
		}
		l = append(l, commit.File{Name: strings.Repeat(string([]byte{byte(255 - k)}), 20), B: b})
	}
	v.Stop(6)
	if e := commit.Commit(v, l); e != api.ErrDead {
		t.Errorf("P1601: %v", e)
	}
	v.Crash(nil)
	if b, _, _ := v.Read("journal"); string(b) != journalOf(l) || len(b) != 64193 {
		t.Errorf("P1601: a journal of %d bytes", len(b))
	}
	if e := commit.Recover(v); e != api.OK || v.Used() != 64000 || len(v.Names()) != 8 {
		t.Errorf("P1602: %v: %d", e, v.Used())
	}
	for _, x := range l {
		if b, _, _ := v.Read(x.Name); string(b) != string(x.B) {
			t.Errorf("P1602: %q: %d bytes", x.Name, len(b))
		}
	}
}

// P1601: the journal's bytes, written out.
func TestJournal(t *testing.T) {
	for _, x := range []struct{ l, want string }{
		{"a=", "\x01\x01\x00a\x00\x00"}, {"a=1", "\x01\x01\x00a\x01\x001"}, {"b=new c= a=xy", "\x03\x01\x00b\x03\x00new\x01\x00c\x00\x00\x01\x00a\x02\x00xy"},
		{"a b c d e f g h", "\x08\x01\x00a\x00\x00\x01\x00b\x00\x00\x01\x00c\x00\x00\x01\x00d\x00\x00\x01\x00e\x00\x00\x01\x00f\x00\x00\x01\x00g\x00\x00\x01\x00h\x00\x00"},
		{strings.Repeat("n", 20) + "=\x00\xff", "\x01\x14\x00" + strings.Repeat("n", 20) + "\x02\x00\x00\xff"}, {"a=" + strings.Repeat("x", 255), "\x01\x01\x00a\xff\x00" + strings.Repeat("x", 255)}, {"a=" + strings.Repeat("x", 256), "\x01\x01\x00a\x00\x01" + strings.Repeat("x", 256)}, {"a=" + strings.Repeat("x", 8000), "\x01\x01\x00a\x40\x1f" + strings.Repeat("x", 8000)},
	} {
		v := vfs.New(1 << 20)
		v.Stop(1)
		e := commit.Commit(v, files(x.l))
		v.Crash([]int{1})
		wanted(t, "P1601", x.l, all(v), "journal="+x.want)
		if e != api.ErrDead || x.want != journalOf(files(x.l)) {
			t.Errorf("P1601: %q: %v", x.l, e)
		}
	}
}

// P1601: the steps, by what is there when the power goes at the n-th one: where the crash keeps all that was done since the Flush ahead of it, and where it keeps nothing. J is the journal, M the mark.
func TestSteps(t *testing.T) {
	l := files("c=345 a=")
	commits := func(v *vfs.Vfs) api.Errno { return commit.Commit(v, l) }
	for i, x := range []struct{ all, none string }{
		{"a=12 z=9 J", "a=12 z=9"},             // Write of the journal
		{"a=12 z=9 J", "a=12 z=9"},             // Flush
		{"a=12 z=9 J M", "a=12 z=9 J"},         // Write of the mark
		{"a=12 z=9 J M", "a=12 z=9 J"},         // Flush
		{"a=12 c=345 z=9 J M", "a=12 z=9 J M"}, // Write of c
		{"a= c=345 z=9 J M", "a=12 z=9 J M"},   // Write of a
		{"a= c=345 z=9 J M", "a=12 z=9 J M"},   // Flush
		{"a= c=345 z=9 J", "a= c=345 z=9 J M"}, // Remove of the mark
		{"a= c=345 z=9 J", "a= c=345 z=9 J M"}, // Flush
		{"a= c=345 z=9", "a= c=345 z=9 J"},     // Remove of the journal
		{"a= c=345 z=9", "a= c=345 z=9 J"},     // Flush
	} {
		stopped(t, begun(t, 100, "a=12 z=9"), l, i+1, []int{1, 1, 1}, x.all, commits)
		stopped(t, begun(t, 100, "a=12 z=9"), l, i+1, nil, x.none, commits)
	}
	v := begun(t, 100, "a=12 z=9")
	v.Stop(12)
	if e := commit.Commit(v, l); e != api.OK || v.Dead() || v.Flush() != api.ErrDead {
		t.Errorf("P1601: %v: the power goes behind it", e)
	}
}

// stopped holds a call to what is there when the power goes at its n-th step.
func stopped(t *testing.T, v *vfs.Vfs, l []commit.File, n int, keep []int, want string, call func(*vfs.Vfs) api.Errno) {
	t.Helper()
	ops := v.Ops()
	v.Stop(n)
	if e := call(v); e != api.ErrDead || !v.Dead() || v.Ops()-ops != n {
		t.Errorf("P1601, P1602: stopped at %d: %v, %d", n, e, v.Ops()-ops)
	}
	v.Crash(keep)
	wanted(t, "P1601, P1602", fmt.Sprintf("stopped at %d, kept %v", n, keep), short(v, l), want)
}

// short is all files, the journal and the mark as J and M behind the others.
func short(v *vfs.Vfs, l []commit.File) string {
	s := " " + all(v) + " "
	for _, x := range [][2]string{{" journal=" + journalOf(l) + " ", " J"}, {" mark= ", " M"}} {
		if strings.Contains(s, x[0]) {
			s = strings.Replace(s, x[0], " ", 1) + x[1][1:] + " "
		}
	}
	return strings.TrimSpace(s)
}
