package names_test

import (
	"fmt"
	"slices"
	"strings"
	"testing"

	"cadence/api"
	"cadence/names"
)

// set is those names; rest is all but those.
func set(l ...string) api.Names { return api.Names{L: l} }

func rest(l ...string) api.Names { return api.Names{All: true, L: l} }

// text is a set written out: whether it is All, and its L as it stands.
func text(n api.Names) string { return fmt.Sprintf("%v %q", n.All, n.L) }

// known are names of all kinds, in order by bytes.
func known() []string {
	return []string{"", "\x00", "\n", "B", "a", "a\x00", "aa", "ab", "b", strings.Repeat("x", 80), strings.Repeat("x", 81), strings.Repeat("x", 70000), "é", "\xff"}
}

// everySet are those of up to three of three names, in any order and more than once, and all but those.
func everySet() []api.Names {
	lists := [][]string{nil}
	for first := 0; len(lists[len(lists)-1]) < 3; {
		last := len(lists)
		for ; first < last; first++ {
			for _, name := range []string{"", "a", "ab"} {
				lists = append(lists, append(slices.Clone(lists[first]), name))
			}
		}
	}
	l := []api.Names{set([]string{}...), {L: []string{}}, {All: true, L: []string{}}}
	for _, x := range lists {
		l = append(l, set(x...), rest(x...))
	}
	return l
}

// plainHas is P301's Has, anew, so that the package is not its own witness.
func plainHas(n api.Names, s string) bool {
	for _, name := range n.L {
		if name == s {
			return !n.All
		}
	}
	return n.All
}

// want is what an operation must answer. A name that stands in no list tells of all those that stand in none.
func want(a, b api.Names, op func(inA, inB bool) bool) api.Names {
	n := api.Names{All: op(a.All, b.All)}
	for _, name := range []string{"", "a", "ab"} {
		if op(plainHas(a, name), plainHas(b, name)) != n.All {
			n.L = append(n.L, name)
		}
	}
	return n
}

// P301: Has, at a glance.
func TestHas(t *testing.T) {
	for i, x := range []struct {
		n    api.Names
		name string
		want bool
	}{
		{set(), "a", false}, {set(), "", false}, {rest(), "a", true}, {rest(), "", true},
		{set("a"), "a", true}, {set("a"), "b", false}, {set("a"), "", false}, {set(""), "", true}, {rest(""), "", false}, {rest("a"), "a", false}, {rest("a"), "b", true},
		{set("c", "a", "b"), "a", true}, {set("c", "a", "b"), "b", true}, {set("c", "a", "b"), "c", true}, {set("c", "a", "b"), "d", false}, {rest("c", "a", "b"), "b", false}, {rest("c", "a", "b"), "bb", true},
		{set("b", "a", "b", "b"), "b", true}, {set("b", "a", "b", "b"), "a", true}, {set("a", "a"), "aa", false}, {rest("b", "b"), "b", false},
		{set("abc"), "ab", false}, {set("ab"), "abc", false}, {set("a"), "A", false}, {set("a"), "a ", false}, {set("a"), "a\x00", false}, {set("é"), "e\u0301", false}, {set("\xff"), "\xfe", false}, {set("\xff"), "\ufffd", false},
	} {
		if got := names.Has(x.n, x.name); got != x.want {
			t.Errorf("P301: %d: Has(%s, %q): %v", i, text(x.n), x.name, got)
		}
	}
}

// P301: Has, of names of all kinds, in either order.
func TestHasKnown(t *testing.T) {
	l := known()
	for i, name := range l {
		others := slices.Delete(slices.Clone(l), i, i+1)
		back := slices.Clone(others)
		slices.Reverse(back)
		for _, x := range [][]string{others, back} {
			if names.Has(set(x...), name) || !names.Has(rest(x...), name) {
				t.Errorf("P301: Has of name %d, which is not listed", i)
			}
			if x = append(x, name); !names.Has(set(x...), name) || names.Has(rest(x...), name) {
				t.Errorf("P301: Has of name %d, which is listed", i)
			}
		}
	}
}

// P301: Both, Either, Not of plain sets, and the chapter's example.
func TestCombined(t *testing.T) {
	for i, x := range []struct {
		got  api.Names
		want string
	}{
		{names.Not(set()), `true []`}, {names.Not(rest()), `false []`}, {names.Not(set("b", "a")), `true ["a" "b"]`}, {names.Not(rest("b", "", "b")), `false ["" "b"]`},
		{names.Both(set("d", "a", "c"), set("c", "b", "d")), `false ["c" "d"]`}, {names.Both(set("a"), set("b")), `false []`}, {names.Both(set("d", "a", "c"), rest("c")), `false ["a" "d"]`}, {names.Both(rest("c"), set("d", "a", "c")), `false ["a" "d"]`}, {names.Both(rest("b"), rest("c", "a", "b")), `true ["a" "b" "c"]`}, {names.Both(rest(), rest()), `true []`}, {names.Both(rest(), set("z", "z")), `false ["z"]`},
		{names.Either(set("d", "a"), set("c", "a")), `false ["a" "c" "d"]`}, {names.Either(set(), set()), `false []`}, {names.Either(set("a"), rest("b", "a")), `true ["b"]`}, {names.Either(rest("b", "a"), set("a")), `true ["b"]`}, {names.Either(rest("c", "b"), rest("a", "b")), `true ["b"]`}, {names.Either(rest("a"), rest("b")), `true []`},
	} {
		if got := text(x.got); got != x.want {
			t.Errorf("P301: %d: %s, not %s", i, got, x.want)
		}
	}
}

// P301: in order by bytes, whatever the names are.
func TestOrder(t *testing.T) {
	l := known()
	back := append(slices.Clone(l), l...)
	slices.Reverse(back)
	odd, even := []string{}, []string{}
	for i, name := range back {
		if i%2 == 0 {
			even = append(even, name, name)
		} else {
			odd = append(odd, name)
		}
	}
	for i, x := range []api.Names{names.Not(rest(back...)), names.Both(set(back...), set(back...)), names.Both(set(back...), rest()), names.Either(set(even...), set(odd...)), names.Either(set(), set(back...)), names.Not(names.Both(rest(odd...), rest(even...)))} {
		if x.All || !slices.Equal(x.L, l) {
			t.Errorf("P301: %d: %d names, out of order", i, len(x.L))
		}
	}
}

// P301: all calls of all pairs of small sets.
func TestEveryPair(t *testing.T) {
	and := func(a, b bool) bool { return a && b }
	or := func(a, b bool) bool { return a || b }
	not := func(a, _ bool) bool { return !a }
	same := func(a, _ bool) bool { return a }
	l := everySet()
	for _, a := range l {
		if got, want := text(names.Not(a)), text(want(a, a, not)); got != want {
			t.Fatalf("P301: Not(%s): %s, not %s", text(a), got, want)
		}
		plain := text(want(a, a, same))
		if got, want := names.None(a), plain == text(set()); got != want {
			t.Fatalf("P301: None(%s): %v", text(a), got)
		}
		for _, name := range []string{"", "a", "ab", "b"} {
			if names.Has(a, name) != plainHas(a, name) {
				t.Fatalf("P301: Has(%s, %q)", text(a), name)
			}
		}
		for _, b := range l {
			if got, want := text(names.Both(a, b)), text(want(a, b, and)); got != want {
				t.Fatalf("P301: Both(%s, %s): %s, not %s", text(a), text(b), got, want)
			}
			if got, want := text(names.Either(a, b)), text(want(a, b, or)); got != want {
				t.Fatalf("P301: Either(%s, %s): %s, not %s", text(a), text(b), got, want)
			}
			if got, want := names.Same(a, b), plain == text(want(b, b, same)); got != want {
				t.Fatalf("P301: Same(%s, %s): %v", text(a), text(b), got)
			}
		}
	}
}

// P301: Same, None.
func TestAsked(t *testing.T) {
	for i, x := range []struct {
		a, b api.Names
		want bool
	}{
		{set(), set(), true}, {rest(), rest(), true}, {set(), rest(), false}, {rest(), set(), false}, {set("a"), rest("a"), false}, {set(known()...), rest(), false}, {rest(known()...), set(), false},
		{set("a", "b", "a"), set("b", "a"), true}, {rest("a", "b", "a"), rest("b", "a"), true}, {set("a", "a", "b"), set("a", "b", "b"), true},
		{set("a"), set("a", "b"), false}, {set("a", "b"), set("b"), false}, {rest("a"), rest("a", "b"), false}, {rest("a", "b"), rest("b"), false}, {set(""), set(), false}, {set(), set(""), false}, {rest(""), rest(), false}, {set("a", "b"), set("a", "c"), false}, {set("a", "a"), set("a", "b"), false}, {set("ab"), set("a", "b"), false},
	} {
		if got := names.Same(x.a, x.b); got != x.want {
			t.Errorf("P301: %d: Same(%s, %s): %v", i, text(x.a), text(x.b), got)
		}
	}
	if !names.None(set()) || !names.None(api.Names{L: []string{}}) || names.None(rest()) || names.None(set("")) || names.None(set("a", "a")) || names.None(rest("")) || names.None(rest(known()...)) {
		t.Error("P301: None")
	}
}

// few are all sets of three names, and all but those, each written in one way of many.
func few() []api.Names {
	var l []api.Names
	for _, x := range [][]string{nil, {""}, {"a", "a"}, {"ab"}, {"a", ""}, {"ab", "", "ab"}, {"a", "ab"}, {"ab", "a", "a", ""}} {
		l = append(l, set(x...), rest(x...))
	}
	return l
}

// P302: the laws of one set and of two.
func TestLaws(t *testing.T) {
	both, either, not, same := names.Both, names.Either, names.Not, names.Same
	for _, a := range few() {
		for i, is := range []bool{
			same(a, a), !same(a, not(a)), same(not(not(a)), a), same(both(a, a), a), same(either(a, a), a),
			same(both(a, rest()), a), same(either(a, set()), a), same(both(a, set()), set()), same(either(a, rest()), rest()),
			names.None(both(a, not(a))), names.None(not(either(a, not(a)))), names.None(a) == same(a, set()),
		} {
			if !is {
				t.Errorf("P302: law %d of %s", i, text(a))
			}
		}
		for _, b := range few() {
			for i, is := range []bool{
				same(a, b) == same(b, a), same(a, b) == same(not(a), not(b)), same(a, b) == (names.None(both(a, not(b))) && names.None(both(b, not(a)))),
				text(both(a, b)) == text(both(b, a)), text(either(a, b)) == text(either(b, a)),
				same(both(a, either(a, b)), a), same(either(a, both(a, b)), a),
				text(not(both(a, b))) == text(either(not(a), not(b))), text(not(either(a, b))) == text(both(not(a), not(b))),
			} {
				if !is {
					t.Errorf("P302: law %d of %s, %s", i, text(a), text(b))
				}
			}
		}
	}
}

// P302: the laws of three sets.
func TestLawsOfThree(t *testing.T) {
	both, either := names.Both, names.Either
	for _, a := range few() {
		for _, b := range few() {
			for _, c := range few() {
				for i, l := range [][2]api.Names{
					{both(both(a, b), c), both(a, both(b, c))}, {either(either(a, b), c), either(a, either(b, c))},
					{both(a, either(b, c)), either(both(a, b), both(a, c))}, {either(a, both(b, c)), both(either(a, b), either(a, c))},
				} {
					if !names.Same(l[0], l[1]) || text(l[0]) != text(l[1]) {
						t.Fatalf("P302: law %d of %s, %s, %s", i, text(a), text(b), text(c))
					}
				}
				if names.Same(a, b) && names.Same(b, c) && !names.Same(a, c) {
					t.Fatalf("P302: Same of %s, %s, %s", text(a), text(b), text(c))
				}
			}
		}
	}
}

// roomy is n with spare room behind its list, in which something stands.
func roomy(n api.Names) api.Names {
	l := append(append(make([]string, 0, len(n.L)+2), n.L...), "spare", "room")
	return api.Names{All: n.All, L: l[:len(n.L)]}
}

// P2: what is handed in, its spare room too, stays as it is, and an answer is new memory.
func TestNewMemory(t *testing.T) {
	for name, call := range map[string]func(a, b api.Names) api.Names{
		"Both": names.Both, "Either": names.Either, "Not": func(a, _ api.Names) api.Names { return names.Not(a) },
	} {
		for _, x := range few() {
			for _, y := range few() {
				a, b := roomy(x), roomy(y)
				one, two, three := call(a, b), call(a, b), call(a, a)
				was, kept := text(two), text(three)
				for i := range one.L[:cap(one.L)] {
					one.L[:cap(one.L)][i] = "other"
				}
				if text(two) != was || text(three) != kept {
					t.Fatalf("P2, P3: %s(%s, %s): answers share memory", name, text(x), text(y))
				}
				if !untouched(a, x) || !untouched(b, y) {
					t.Fatalf("P2: %s changed what it was handed, or answered it", name)
				}
				clear(a.L[:cap(a.L)])
				clear(b.L[:cap(b.L)])
				if text(two) != was || text(three) != kept {
					t.Fatalf("P2: %s(%s, %s) kept what it was handed", name, text(x), text(y))
				}
			}
		}
	}
}

// untouched tells whether n, made by roomy, is as it was made of was, to the end of its room.
func untouched(n, was api.Names) bool {
	return text(api.Names{All: n.All, L: n.L[:cap(n.L)]}) == text(api.Names{All: was.All, L: append(slices.Clone(was.L), "spare", "room")})
}

// P2: the calls that answer a bool leave what they are handed, too.
func TestAskedOnly(t *testing.T) {
	for _, x := range few() {
		for _, y := range few() {
			a, b := roomy(x), roomy(y)
			for range 2 {
				names.Has(a, "a")
				names.Same(a, b)
				names.None(a)
			}
			if !untouched(a, x) || !untouched(b, y) {
				t.Fatalf("P2: %s, %s: changed", text(x), text(y))
			}
		}
	}
}

// P1, P301: long lists are sets as others are.
func TestLong(t *testing.T) {
	const n = 100000
	var l, odd []string
	for i := range n {
		name := fmt.Sprintf("%06d", n-1-i)
		l = append(l, name, name)
		if i%2 == 0 {
			odd = append(odd, name)
		}
	}
	a, b := set(l...), rest(odd...)
	if got := names.Both(a, b); got.All || len(got.L) != n/2 || got.L[0] != "000000" || got.L[1] != "000002" {
		t.Errorf("P301: Both: %d", len(got.L))
	}
	if got := names.Either(a, b); !got.All || len(got.L) != 0 {
		t.Errorf("P301: Either: %d", len(got.L))
	}
	if got := names.Not(a); !got.All || len(got.L) != n || !slices.IsSorted(got.L) {
		t.Errorf("P301: Not: %d", len(got.L))
	}
	if names.Same(a, b) || !names.Same(a, names.Not(names.Not(a))) || names.Has(a, "x") || !names.Has(a, "000000") {
		t.Error("P301: Same, Has")
	}
}
