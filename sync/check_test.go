package sync_test

import (
	"strings"
	"testing"

	"cadence/api"
	"cadence/commit"
	"cadence/files"
	"cadence/sync"
	"cadence/vfs"
)

// deep is a lens of so many parts, one in the other.
func deep(n int) api.Lens {
	l := id()
	for range n - 1 {
		l = mapped(l)
	}
	return l
}

// P1701: forms; without definitions the lens is not looked at.
func TestCheckForm(t *testing.T) {
	for _, l := range []api.Lens{{}, {Op: 99}, {Op: api.LMap}, {Op: api.LId, A: strings.Repeat("n", 81)}, deep(13), id()} {
		for _, s := range []api.Schema{nil, {}} {
			for form, want := range map[int]api.Errno{-1 << 62: api.ErrKind, -1: api.ErrKind, 0: api.ErrKind, 1: api.OK, 2: api.OK, 3: api.OK, 4: api.OK, 5: api.ErrKind, 1 << 32: api.ErrKind, 1<<32 + 1: api.ErrKind} {
				if e := sync.Check(api.Config{Form: form, L: l, S: s}); e != want {
					t.Errorf("P1701: form %d, lens %v: %v, not %v", form, l.Op, e, want)
				}
			}
		}
	}
}

// P1701: with definitions schema.Check's error, then lens.Check's.
func TestCheckSchemaAndLens(t *testing.T) {
	n81 := strings.Repeat("n", 81)
	schemas := []struct {
		s    api.Schema
		want api.Errno
	}{
		{api.Schema{{}}, api.OK}, {free(), api.OK}, {files.Schema(api.FMarks), api.OK}, {make(api.Schema, 12), api.OK},
		{make(api.Schema, 13), api.ErrMany}, {api.Schema{{Fields: make([]api.Field, 7)}}, api.ErrMany}, {api.Schema{{Fields: []api.Field{{N: names(n81)}}}}, api.ErrLong},
		{api.Schema{{Fields: []api.Field{{To: 1}}}}, api.ErrArg}, {api.Schema{{Fields: []api.Field{{N: but(), Need: true}}}}, api.ErrKind}, {api.Schema{{Fields: []api.Field{{N: but()}, {N: names("a")}}}}, api.ErrTwice},
	}
	lenses := []struct {
		l    api.Lens
		want api.Errno
	}{
		{id(), api.OK}, {filter("a"), api.OK}, {deep(12), api.OK}, {seq(deep(8), deep(8), deep(8), deep(8), deep(7)), api.OK},
		{api.Lens{}, api.ErrKind}, {api.Lens{Op: 10}, api.ErrKind}, {api.Lens{Op: api.LMap}, api.ErrArg}, {rename("a", "a"), api.ErrArg}, {rename("a", n81), api.ErrLong}, {deep(13), api.ErrDeep},
		{seq(deep(8), deep(8), deep(8), deep(8), deep(8)), api.ErrMany}, {is(api.Tree{e("b"), e("a")}, nil), api.ErrName}, {is(nil, api.Tree{e(n81)}), api.ErrLong},
	}
	for _, s := range schemas {
		for _, l := range lenses {
			want := s.want
			if want == api.OK {
				want = l.want
			}
			for form := api.FIni; form <= api.FMarks; form++ {
				if e := sync.Check(api.Config{Form: form, L: l.l, S: s.s}); e != want {
					t.Errorf("P1701: schema %v, lens %v: %v, not %v", s.s, l.l, e, want)
				}
			}
			if e := sync.Check(api.Config{Form: 5, L: l.l, S: s.s}); e != api.ErrKind {
				t.Errorf("P1701, P6: schema %v, lens %v: %v", s.s, l.l, e)
			}
			if r, e := sync.Sync(dead(vfs.New(9)), api.Config{Form: 1, L: l.l, S: s.s}); want != api.OK && e != want || want == api.OK && e != api.ErrDead || answered(r) != "()" {
				t.Errorf("P1702, P6: schema %v, lens %v: %v, not %v", s.s, l.l, e, want)
			}
		}
	}
}

// P1: a lens that has itself among its kids, a schema as great as may come.
func TestCheckEnds(t *testing.T) {
	kids := make([]api.Lens, 1)
	kids[0] = api.Lens{Op: api.LMap, Kids: kids}
	if e := sync.Check(viewed(1, kids[0])); e != api.ErrDeep {
		t.Errorf("P1: %v", e)
	}
	if e := sync.Check(viewed(1, id(), make(api.Schema, 1<<20))); e != api.ErrMany {
		t.Errorf("P1: %v", e)
	}
}

// journal is the bytes of one, of files that are each a name and what it is.
func journal(l ...string) string {
	b := []byte{byte(len(l) / 2)}
	for _, s := range l {
		b = append(b, byte(len(s)), byte(len(s)>>8))
		b = append(b, s...)
	}
	return string(b)
}

// P1701: Start is commit.Recover, whatever is there.
func TestStart(t *testing.T) {
	good := journal("a", "[x]\n", "o", "", "b", "1")
	for _, l := range [][]string{
		{}, {"a", "1"}, {"journal", "x"}, {"journal", good}, {"mark", ""}, {"mark", "", "journal", ""}, {"mark", "", "journal", good + "x"}, {"mark", "", "journal", good, "a", "2", "z", "3"}, {"mark", "1", "journal", journal("q", "1")},
		{"mark", "", "journal", journal("a", strings.Repeat("x", 30)), "z", strings.Repeat("y", 20)},
	} {
		for n := range 10 {
			v, w := roomFor(70, l...), roomFor(70, l...)
			v.Stop(n)
			w.Stop(n)
			e, f := sync.Start(v), commit.Recover(w)
			if e != f || told(v) != told(w) {
				t.Errorf("P1701: %q, stopped at %d: %v, not %v: %s", l, n, e, f, told(v))
			}
		}
	}
	if e := sync.Start(dead(begun("a", "1"))); e != api.ErrDead {
		t.Errorf("P1701: without power: %v", e)
	}
	if e := sync.Start(begun("mark", "")); e != api.ErrBad {
		t.Errorf("P1701: a mark alone: %v", e)
	}
}
