package schema_test

import (
	"fmt"
	"math"
	"slices"
	"strings"
	"testing"

	"cadence/api"
	"cadence/schema"
)

// some is a field of those names; need one of which each must be there; rest one of all but those.
func some(to int, l ...string) api.Field { return api.Field{N: api.Names{L: l}, To: to} }

func need(to int, l ...string) api.Field {
	return api.Field{N: api.Names{L: l}, To: to, Need: true}
}

func rest(to int, l ...string) api.Field {
	return api.Field{N: api.Names{All: true, L: l}, To: to}
}

// needRest is a field that may not be: nobody can have all names but some.
func needRest(to int, l ...string) api.Field {
	return api.Field{N: api.Names{All: true, L: l}, To: to, Need: true}
}

func def(l ...api.Field) api.Def { return api.Def{Fields: l} }

// numbered are n names, each another one.
func numbered(n int) []string {
	var l []string
	for i := range n {
		l = append(l, fmt.Sprint("name ", i))
	}
	return l
}

// long is a name of n bytes.
func long(n int) string { return strings.Repeat("x", n) }

// many are n fields that share no name.
func many(n int) []api.Field {
	var l []api.Field
	for _, name := range numbered(n) {
		l = append(l, some(0, name))
	}
	return l
}

// checked is a schema, and what Check must answer of it.
type checked struct {
	s    api.Schema
	want api.Errno
}

func check(t *testing.T, l []checked) {
	t.Helper()
	for i, x := range l {
		if e := schema.Check(x.s); e != x.want {
			t.Errorf("P401: %d: %v, not %v", i, e, x.want)
		}
	}
}

// P401: how many definitions, fields, names there may be.
func TestCheckCounts(t *testing.T) {
	check(t, []checked{
		{nil, api.ErrNone}, {api.Schema{}, api.ErrNone}, {make(api.Schema, 0, 5), api.ErrNone},
		{api.Schema{{}}, api.OK}, {make(api.Schema, 12), api.OK}, {make(api.Schema, 13), api.ErrMany}, {make(api.Schema, 100000), api.ErrMany},
		{api.Schema{def(many(1)...)}, api.OK}, {api.Schema{def(many(6)...)}, api.OK}, {api.Schema{def(many(7)...)}, api.ErrMany}, {api.Schema{def(many(1000)...)}, api.ErrMany}, {api.Schema{{}, def(many(6)...), def(many(7)...)}, api.ErrMany},
		{api.Schema{{Fields: make([]api.Field, 6)}}, api.OK}, {api.Schema{{Fields: make([]api.Field, 7)}}, api.ErrMany},
		{api.Schema{def(some(0, numbered(20)...))}, api.OK}, {api.Schema{def(some(0, numbered(21)...))}, api.ErrMany}, {api.Schema{def(need(0, numbered(20)...))}, api.OK}, {api.Schema{def(need(0, numbered(21)...))}, api.ErrMany},
		{api.Schema{def(rest(0, numbered(20)...))}, api.OK}, {api.Schema{def(rest(0, numbered(21)...))}, api.ErrMany}, {api.Schema{def(some(0, numbered(100000)...))}, api.ErrMany},
		{api.Schema{def(some(0, make([]string, 20)...))}, api.OK}, {api.Schema{def(some(0, make([]string, 21)...))}, api.ErrMany}, {api.Schema{def(many(5)...), def(append(many(5), some(1, make([]string, 21)...))...)}, api.ErrMany},
	})
}

// P401: how long names may be: bytes count.
func TestCheckLong(t *testing.T) {
	check(t, []checked{
		{api.Schema{def(some(0, ""))}, api.OK}, {api.Schema{def(some(0, long(80)))}, api.OK}, {api.Schema{def(some(0, long(81)))}, api.ErrLong}, {api.Schema{def(some(0, long(1000000)))}, api.ErrLong},
		{api.Schema{def(some(0, "a", "b", long(81)))}, api.ErrLong}, {api.Schema{def(rest(0, long(80), ""))}, api.OK}, {api.Schema{def(rest(0, "", long(81)))}, api.ErrLong}, {api.Schema{def(need(0, long(81), "a"))}, api.ErrLong},
		{api.Schema{def(some(0, strings.Repeat("é", 40)))}, api.OK}, {api.Schema{def(some(0, strings.Repeat("é", 41)))}, api.ErrLong}, {api.Schema{def(some(0, strings.Repeat("\xff", 81)))}, api.ErrLong}, {api.Schema{{}, def(some(0), some(1, long(81)))}, api.ErrLong},
	})
}

// P401: To is a definition's number, from 0 on, of a field without names too.
func TestCheckTo(t *testing.T) {
	for _, to := range []int{-1, -2, 3, 4, 12, 1 << 32, math.MaxInt, math.MinInt} {
		check(t, []checked{{api.Schema{{}, {}, def(some(to, "a"))}, api.ErrArg}, {api.Schema{def(rest(to)), {}, {}}, api.ErrArg}, {api.Schema{{}, def(some(0, "a"), need(to, "b")), {}}, api.ErrArg}, {api.Schema{def(some(to)), {}, {}}, api.ErrArg}})
	}
	for to := range 3 {
		check(t, []checked{{api.Schema{{}, {}, def(some(to, "a"))}, api.OK}, {api.Schema{def(rest(to)), {}, {}}, api.OK}, {api.Schema{{}, def(some(0, "a"), need(to, "b")), {}}, api.OK}})
	}
	check(t, []checked{{api.Schema{def(some(1, "a"))}, api.ErrArg}, {api.Schema{def(some(0, "a"))}, api.OK}})
}

// P401: Need, and All.
func TestCheckNeed(t *testing.T) {
	check(t, []checked{
		{api.Schema{def(needRest(0))}, api.ErrKind}, {api.Schema{def(needRest(0, "a", "b"))}, api.ErrKind}, {api.Schema{{}, def(some(0, "a"), needRest(0, "a"))}, api.ErrKind},
		{api.Schema{def(need(0, "a"), rest(0, "a"))}, api.OK}, {api.Schema{def(rest(0, "a"), need(0, "a"))}, api.OK}, {api.Schema{def(need(0))}, api.OK}, {api.Schema{def(rest(0))}, api.OK},
	})
}

// P401: a name is in one field of a definition, at most.
func TestCheckTwice(t *testing.T) {
	check(t, []checked{
		{api.Schema{def(some(0, "a"), some(0, "a"))}, api.ErrTwice}, {api.Schema{def(some(0, "a", "b"), need(0, "c", "b"))}, api.ErrTwice}, {api.Schema{def(need(0, ""), some(0, "a", ""))}, api.ErrTwice}, {api.Schema{def(some(0, "a"), some(0, "b"))}, api.OK},
		{api.Schema{def(some(0, "a"), some(0, "b"), some(0, "c", "a"))}, api.ErrTwice}, {api.Schema{def(many(6)[0], many(6)[1], many(6)[2], many(6)[3], many(6)[4], many(6)[0])}, api.ErrTwice},
		{api.Schema{def(rest(0), some(0, "a"))}, api.ErrTwice}, {api.Schema{def(some(0, "a"), rest(0))}, api.ErrTwice}, {api.Schema{def(rest(0, "a"), some(0, "a"))}, api.OK}, {api.Schema{def(some(0, "a"), rest(0, "b", "a"))}, api.OK}, {api.Schema{def(rest(0, "b", "a"), some(0, "a", "b", "c"))}, api.ErrTwice}, {api.Schema{def(some(0, "a", "c"), rest(0, "a"))}, api.ErrTwice},
		{api.Schema{def(rest(0), rest(0))}, api.ErrTwice}, {api.Schema{def(rest(0, "a"), rest(0, "b"))}, api.ErrTwice}, {api.Schema{def(rest(0, numbered(20)...), some(0), rest(0, numbered(20)...))}, api.ErrTwice},
		{api.Schema{def(some(0), some(0))}, api.OK}, {api.Schema{def(some(0), rest(0))}, api.OK}, {api.Schema{def(rest(0), some(0), need(0))}, api.OK},
		{api.Schema{def(some(0, "a", "a"))}, api.OK}, {api.Schema{def(rest(0, "a", "a"), need(0, "a", "a", "a"))}, api.OK}, {api.Schema{def(some(0, "a", "a"), some(0, "b", "b"))}, api.OK},
		{api.Schema{def(some(0, "a")), def(some(0, "a")), def(rest(0)), def(rest(0))}, api.OK}, {api.Schema{def(some(0, "a"), some(0, "A"), some(0, "a "), some(0, "aa"), some(0, "a\x00"))}, api.OK}, {api.Schema{def(some(0, "é"), some(0, "e\u0301"))}, api.OK},
	})
}

// faulty are fields each with one fault, in the order of the faults in P401, for behind a field that has the name a, in a schema of at most 12 definitions.
func faulty() []api.Field {
	return []api.Field{some(0, numbered(21)...), some(0, long(81)), some(12, "b"), needRest(0, numbered(20)...), some(0, "c", "a")}
}

func faults() []api.Errno {
	return []api.Errno{api.ErrMany, api.ErrLong, api.ErrArg, api.ErrKind, api.ErrTwice}
}

// P401, P6: of a field's faults the first one in the promise's order.
func TestCheckFirstFault(t *testing.T) {
	for set := range 1 << 5 {
		f, want := some(0, "b"), api.OK
		for i := 4; i >= 0; i-- {
			if set>>i&1 == 1 {
				f, want = spoilt(f, i), faults()[i]
			}
		}
		check(t, []checked{{api.Schema{def(some(0, "a"), f)}, want}})
	}
}

// spoilt is f with the fault i, whatever else is wrong with it.
func spoilt(f api.Field, i int) api.Field {
	l := slices.Clone(f.N.L)
	switch i {
	case 0:
		f.N.L = append(l, make([]string, 21)...)
	case 1:
		f.N.L = append(l, long(81))
	case 2:
		f.To = 1
	case 3:
		f.N.All, f.Need = true, true
	case 4:
		f.N.L = append(l, "a")
	}
	return f
}

// P401, P6: of fields, of definitions, the first one that has a fault.
func TestCheckFirstOfLists(t *testing.T) {
	ahead, fine := some(0, "a"), def(some(0, "a"))
	for i, x := range faulty() {
		for j, y := range faulty() {
			first, second := faults()[i], faults()[j]
			check(t, []checked{
				{api.Schema{fine, def(ahead, x)}, first}, {api.Schema{def(ahead, x, y)}, first}, {api.Schema{def(ahead, y, x)}, second}, {api.Schema{def(ahead, some(0, "d"), x, y)}, first},
				{api.Schema{def(ahead, x), def(ahead, y)}, first}, {api.Schema{fine, def(ahead, y), fine, def(ahead, x), fine}, second},
			})
		}
		check(t, []checked{
			{api.Schema{def(ahead, x), def(many(7)...)}, faults()[i]}, {api.Schema{def(many(7)...), def(ahead, x)}, api.ErrMany}, {api.Schema{def(append([]api.Field{ahead, x}, many(5)...)...)}, api.ErrMany},
			{append(make(api.Schema, 12), def(ahead, x)), api.ErrMany}, {append(api.Schema{def(ahead, x)}, make(api.Schema, 12)...), api.ErrMany}, {append(api.Schema{def(ahead, x)}, make(api.Schema, 11)...), faults()[i]},
		})
	}
}

// P401: a schema as great as it may be, whatever One and Some are.
func TestCheckGreat(t *testing.T) {
	for _, one := range []bool{false, true} {
		for _, more := range []bool{false, true} {
			x := api.Def{Fields: []api.Field{need(1, numbered(17)...), some(11, "a", long(80), ""), some(0), some(5), need(6), rest(0, append(numbered(17), "a", long(80), "")...)}, One: one, Some: more}
			s := slices.Repeat(api.Schema{x}, 12)
			check(t, []checked{{s, api.OK}, {s[:11], api.ErrArg}, {append(s, x), api.ErrMany}})
			s[11].Fields = slices.Clone(x.Fields)
			s[11].Fields[0] = need(1, numbered(18)...)
			check(t, []checked{{s, api.ErrTwice}})
		}
	}
}
