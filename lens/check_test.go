package lens_test

import (
	"math"
	"slices"
	"strings"
	"testing"

	"cadence/api"
	"cadence/lens"
	"cadence/tree"
)

// checked is a lens, and what Check must answer of it.
type checked struct {
	l    api.Lens
	want api.Errno
}

func check(t *testing.T, l []checked) {
	t.Helper()
	for i, x := range l {
		if e := lens.Check(x.l); e != x.want {
			t.Errorf("P1101: %d: %v, not %v", i, e, x.want)
		}
	}
}

// P1101: at most 40 parts, wherever they stand.
func TestCheckMany(t *testing.T) {
	for n := 1; n <= 72; n++ {
		l, want := parts(n), api.OK
		if n > 40 {
			want = api.ErrMany
		}
		if count(l) != n {
			t.Fatalf("parts(%d) are %d", n, count(l))
		}
		check(t, []checked{{l, want}})
	}
	full := parts(38)
	check(t, []checked{
		{seq(full, id()), api.OK}, {seq(id(), full), api.OK}, {seq(full, id(), id()), api.ErrMany}, {seq(id(), id(), full), api.ErrMany}, {fork(set(), set(), id(), full), api.OK}, {fork(set(), set(), full, each(id())), api.ErrMany}, {each(each(full)), api.OK}, {each(each(each(full))), api.ErrMany},
	})
}

// P1101: at most 12 deep, whatever the parts are.
func TestCheckDeep(t *testing.T) {
	for _, l := range samples() {
		below := 1
		if len(l.Kids) > 0 {
			below = 2
		}
		check(t, []checked{{nested(13-below, l), api.OK}, {nested(14-below, l), api.ErrDeep}})
	}
	deep := nested(11, id())
	check(t, []checked{
		{id(), api.OK}, {nested(12, id()), api.OK}, {nested(13, id()), api.ErrDeep}, {nested(39, id()), api.ErrDeep}, {nested(60, id()), api.ErrDeep}, {nested(100000, id()), api.ErrDeep},
		{seq(id(), deep), api.OK}, {seq(id(), each(deep)), api.ErrDeep}, {fork(set(), set(), id(), deep), api.OK}, {fork(set(), set(), each(deep), id()), api.ErrDeep},
	})
}

// P1101: Op is one of nine.
func TestCheckKind(t *testing.T) {
	for op := -20; op < 30; op++ {
		want := api.ErrKind
		for _, l := range samples() {
			if l.Op == op {
				want = api.OK
			}
		}
		l := api.Lens{Op: op, A: "a", B: "b"}
		switch op {
		case api.LMap:
			l.Kids = []api.Lens{id()}
		case api.LFork, api.LSeq:
			l.Kids = []api.Lens{id(), id()}
		}
		check(t, []checked{{l, want}, {each(l), want}, {seq(id(), l), want}})
	}
	check(t, []checked{{api.Lens{}, api.ErrKind}, {api.Lens{Op: math.MaxInt}, api.ErrKind}, {api.Lens{Op: math.MinInt}, api.ErrKind}, {api.Lens{Op: 1<<32 + 1}, api.ErrKind}})
}

// P1101: each has just as many kids as it must.
func TestCheckKids(t *testing.T) {
	allowed := map[int][]int{api.LMap: {1}, api.LFork: {2}, api.LSeq: {1, 2, 3, 4, 5, 6, 7, 8}}
	for _, l := range samples() {
		fine := allowed[l.Op]
		if fine == nil {
			fine = []int{0}
		}
		for n := range 12 {
			l.Kids, l.N, l.M = slices.Repeat([]api.Lens{id()}, n), set("a"), set("b")
			want := api.ErrArg
			if slices.Contains(fine, n) {
				want = api.OK
			}
			check(t, []checked{{l, want}, {each(l), want}, {seq(id(), l), want}})
		}
		l.Kids = make([]api.Lens, 1<<16-1)
		check(t, []checked{{l, api.ErrArg}})
	}
}

// P1101: A and B count by their bytes, of any Op.
func TestCheckLong(t *testing.T) {
	for _, l := range samples() {
		for _, fine := range []string{"", "c", long(80), strings.Repeat("é", 40), "\x00\n"} {
			x, y, z := l, l, l
			x.A, y.B, z.A, z.B = fine, fine, fine, "z"
			check(t, []checked{{x, api.OK}, {y, api.OK}, {z, api.OK}})
		}
		for _, more := range []string{long(81), long(70000), strings.Repeat("é", 41), strings.Repeat("\xff", 81)} {
			x, y := l, l
			x.A, y.B = more, more
			check(t, []checked{{x, api.ErrLong}, {y, api.ErrLong}, {each(x), api.ErrLong}})
		}
	}
}

// P1101: of a LRename A is not B; of the others it may be.
func TestCheckRename(t *testing.T) {
	for _, name := range []string{"", "a", long(80)} {
		for _, l := range samples() {
			l.A, l.B = name, name
			want := api.OK
			if l.Op == api.LRename {
				want = api.ErrArg
			}
			check(t, []checked{{l, want}})
		}
	}
	check(t, []checked{{rename("a", "A"), api.OK}, {rename("a", "a "), api.OK}, {rename("", "a"), api.OK}, {rename(long(80), long(79)), api.OK}})
}

// P1101: names of a LFilter, and both of a LFork; of others, and M of a LFilter, they do not count.
func TestCheckNames(t *testing.T) {
	sets := []struct {
		n    api.Names
		want api.Errno
	}{
		{set(), api.OK}, {rest(), api.OK}, {set(""), api.OK}, {set(long(80)), api.OK}, {rest(long(80), "a"), api.OK}, {set(numbered(20)...), api.OK}, {rest(numbered(20)...), api.OK}, {set(make([]string, 20)...), api.OK}, {set("b", "a", "b"), api.OK}, {set(strings.Repeat("é", 40)), api.OK},
		{set(numbered(21)...), api.ErrMany}, {rest(numbered(21)...), api.ErrMany}, {set(make([]string, 21)...), api.ErrMany}, {set(numbered(70000)...), api.ErrMany}, {set(append(numbered(20), long(81))...), api.ErrMany},
		{set(long(81)), api.ErrLong}, {rest("a", long(81)), api.ErrLong}, {set(long(70000)), api.ErrLong}, {set(append(numbered(19), long(81))...), api.ErrLong}, {set(strings.Repeat("é", 41)), api.ErrLong},
	}
	for _, x := range sets {
		for _, y := range sets {
			both := x.want
			if both == api.OK {
				both = y.want
			}
			check(t, []checked{{fork(x.n, y.n, id(), id()), both}})
			for _, l := range samples() {
				want := api.OK
				switch l.Op {
				case api.LFilter:
					want = x.want
				case api.LFork:
					want = both
				}
				l.N, l.M = x.n, y.n
				check(t, []checked{{l, want}})
			}
		}
	}
}

// P1101: T and U of a LConst; of others they do not count.
func TestCheckTrees(t *testing.T) {
	trees := []api.Tree{nil, {}, of("a", "b"), of(""), chain(12), row(400, "r"), of(long(80)), chain(13), row(401, "r"), of(long(81)), of("b", "a"), of("a", "a"), {e("a", of("z", "y")...)}, chain(100000), row(1<<16, "r")}
	for _, x := range trees {
		for _, y := range trees {
			both := tree.Check(x)
			if both == api.OK {
				both = tree.Check(y)
			}
			for _, l := range samples() {
				want := api.OK
				if l.Op == api.LConst {
					want = both
				}
				l.T, l.U = x, y
				check(t, []checked{{l, want}})
			}
		}
	}
}

// spoilt is a lens l of a kind with a fault, its other fields as they were: 0 its Op, 1 its kids, 2 A or B, 3 what is of its Op alone.
func spoilt(l api.Lens, fault int) api.Lens {
	switch fault {
	case 0:
		l.Op = 10
	case 1:
		l.Kids = append(slices.Clone(l.Kids), make([]api.Lens, 9)...)
	case 2:
		l.B = long(81)
	case 3:
		l.B = l.A
		l.N = set(make([]string, 21)...)
		l.T = of("b", "a")
	}
	return l
}

// own is the error of what is of an Op alone.
func own(op int) api.Errno {
	switch op {
	case api.LRename:
		return api.ErrArg
	case api.LFilter, api.LFork:
		return api.ErrMany
	case api.LConst:
		return api.ErrName
	}
	return api.OK
}

// P1101, P6: of a part's faults the first one in the promise's order, and a part's ahead of its kids'.
func TestCheckFirstFault(t *testing.T) {
	for _, l := range samples() {
		errs := []api.Errno{api.ErrKind, api.ErrArg, api.ErrLong, own(l.Op)}
		for faults := range 1 << 4 {
			x, want := l, api.OK
			for i := 3; i >= 0; i-- {
				if faults>>i&1 == 1 {
					x = spoilt(x, i)
				}
				if faults>>i&1 == 1 && errs[i] != api.OK {
					want = errs[i]
				}
			}
			check(t, []checked{{x, want}})
			for i := range x.Kids {
				x.Kids = slices.Clone(x.Kids)
				x.Kids[i] = api.Lens{Op: 11, A: long(81)}
				broken := want
				if want == api.OK {
					broken = api.ErrKind
				}
				check(t, []checked{{x, broken}})
			}
		}
	}
	check(t, []checked{
		{api.Lens{Op: api.LRename, A: long(81), B: long(81)}, api.ErrLong}, {api.Lens{Op: api.LConst, T: of(long(81)), U: of("b", "a")}, api.ErrLong}, {api.Lens{Op: api.LConst, T: of("b", "a"), U: of(long(81))}, api.ErrName},
		{fork(set(long(81)), set(make([]string, 21)...), id(), id()), api.ErrLong}, {fork(set(make([]string, 21)...), set(long(81)), id(), id()), api.ErrMany},
	})
}

// P1101, P6: of several parts' faults the first one's, each part ahead of its kids, these in order, with all below them.
func TestCheckOrder(t *testing.T) {
	kind, arg, name := api.Lens{Op: 10}, each(), api.Lens{Op: api.LConst, U: of("b", "a")}
	check(t, []checked{
		{seq(kind, arg), api.ErrKind}, {seq(arg, kind), api.ErrArg}, {seq(id(), name, kind), api.ErrName}, {seq(each(seq(id(), name)), kind), api.ErrName}, {seq(kind, each(seq(id(), name))), api.ErrKind},
		{fork(set(), set(), arg, kind), api.ErrArg}, {fork(set(), set(), id(), kind), api.ErrKind}, {each(each(name)), api.ErrName}, {api.Lens{Op: api.LMap, A: long(81), Kids: []api.Lens{kind}}, api.ErrLong},
		{seq(nested(13, id()), kind), api.ErrDeep}, {seq(kind, nested(13, id())), api.ErrKind}, {nested(13, kind), api.ErrDeep}, {nested(12, kind), api.ErrKind}, {nested(12, arg), api.ErrArg},
		{seq(parts(38), kind), api.ErrKind}, {seq(parts(39), kind), api.ErrMany}, {seq(kind, parts(60)), api.ErrKind}, {seq(parts(38), arg, kind), api.ErrArg}, {seq(parts(38), id(), kind), api.ErrMany},
		{seq(parts(27), nested(12, id())), api.ErrDeep}, {seq(parts(28), nested(12, id())), api.ErrMany}, {seq(parts(28), nested(11, id())), api.OK}, {seq(parts(29), nested(11, id())), api.ErrMany}, {seq(nested(12, id()), parts(60)), api.ErrDeep},
		{seq(each(), parts(60)), api.ErrArg}, {api.Lens{Op: api.LSeq, Kids: []api.Lens{parts(60), kind}}, api.ErrMany},
	})
}
