package lens_test

import (
	"testing"

	"cadence/api"
	"cadence/lens"
	"cadence/tree"
)

// asked is a call's answer, and the error that it must have.
type asked struct {
	x    answer
	want api.Errno
}

func ask(t *testing.T, l []asked) {
	t.Helper()
	for i, x := range l {
		if x.x.e != x.want || x.want != api.OK && len(x.x.t) != 0 {
			t.Errorf("P1102, P4: %d: %v, not %v", i, x.x.e, x.want)
		}
	}
}

func get(l api.Lens, c api.Tree) answer { return call(lens.Get(l, c)) }

func put(l api.Lens, a, c api.Tree) answer { return call(lens.Put(l, a, c)) }

func create(l api.Lens, a api.Tree) answer { return call(lens.Create(l, a)) }

// P1102: an answer is a tree: not too deep.
func TestTooDeep(t *testing.T) {
	deep, fine := chain(12), chain(11)
	ask(t, []asked{
		{get(id(), deep), api.OK}, {put(id(), deep, deep), api.OK}, {create(id(), deep), api.OK},
		{get(plunge("p"), fine), api.OK}, {get(plunge("p"), deep), api.ErrDeep}, {put(plunge("p"), under(fine, "p"), nil), api.OK},
		{put(hoist("p"), fine, nil), api.OK}, {put(hoist("p"), deep, nil), api.ErrDeep}, {create(hoist("p"), fine), api.OK}, {create(hoist("p"), deep), api.ErrDeep},
		{get(each(plunge("p")), fine), api.OK}, {get(each(plunge("p")), deep), api.ErrDeep}, {put(each(hoist("p")), deep, nil), api.ErrDeep}, {put(each(hoist("p")), deep, deep), api.ErrDeep}, {create(each(hoist("p")), fine), api.OK}, {create(each(hoist("p")), deep), api.ErrDeep},
		{get(each(always(deep, nil)), of("a")), api.ErrDeep}, {get(each(always(fine, nil)), of("a")), api.OK}, {put(each(always(nil, deep)), of("a"), nil), api.ErrDeep}, {put(each(always(nil, deep)), of("a"), of("a")), api.OK}, {create(each(always(nil, deep)), of("a")), api.ErrDeep},
		{get(always(deep, nil), nil), api.OK}, {create(always(nil, deep), nil), api.OK}, {get(fork(set("d"), set("p"), plunge("p"), id()), deep), api.ErrDeep}, {get(rename("d", "z"), deep), api.OK},
	})
}

// P1102: an answer is a tree: not too many edges.
func TestTooMany(t *testing.T) {
	full, some, more := row(400, "r"), row(200, "r"), row(200, "s")
	both := append(append(api.Tree{}, some...), more...)
	ask(t, []asked{
		{get(id(), full), api.OK}, {get(plunge("p"), full), api.ErrMany}, {get(plunge("p"), full[1:]), api.OK}, {put(hoist("p"), full, nil), api.ErrMany}, {create(hoist("p"), full), api.ErrMany}, {create(hoist("p"), full[1:]), api.OK},
		{put(filter(rest("c")), both, of("c")), api.ErrMany}, {put(filter(rest("c")), both, of("d")), api.OK}, {put(filter(rest("c")), both[1:], of("c")), api.OK}, {create(filter(rest("c")), both), api.OK},
		{put(filter(set("c")), of("c"), full), api.ErrMany}, {put(filter(set("c")), nil, full), api.OK}, {put(filter(set("c")), of("c"), full[1:]), api.OK},
		{get(each(always(of("a"), nil)), some), api.OK}, {get(each(always(of("a"), nil)), row(201, "r")), api.ErrMany}, {get(each(always(full, nil)), full), api.ErrMany}, {get(each(always(full, nil)), nil), api.OK},
		{put(each(always(nil, of("a"))), row(201, "r"), nil), api.ErrMany}, {put(each(always(nil, of("a"))), row(201, "r"), of("r007", "r008")), api.OK}, {put(each(always(nil, of("a"))), row(201, "r"), of("r007")), api.ErrMany}, {create(each(always(nil, of("a"))), some), api.OK}, {create(each(always(nil, of("a"))), row(201, "r")), api.ErrMany},
		{get(fork(set("a"), set("p"), plunge("p"), id()), full), api.ErrMany}, {get(fork(set("a"), set("p"), plunge("p"), id()), full[1:]), api.OK}, {put(fork(set("p"), set("a"), hoist("p"), id()), full, nil), api.ErrMany}, {create(fork(set("p"), set("a"), hoist("p"), id()), full), api.ErrMany}, {create(fork(set("p"), set("a"), hoist("p"), id()), full[1:]), api.OK},
	})
}

// P1102: a part's answer is a tree by itself, though the whole's might be one.
func TestPartByItself(t *testing.T) {
	deep, full := chain(12), row(400, "r")
	there := seq(plunge("p"), hoist("p"))
	back := seq(hoist("p"), plunge("p"))
	ask(t, []asked{
		{get(there, deep), api.ErrDeep}, {get(there, full), api.ErrMany}, {get(there, chain(11)), api.OK}, {put(there, deep, nil), api.ErrDeep}, {put(there, full, nil), api.ErrMany}, {create(there, deep), api.ErrDeep}, {create(there, full), api.ErrMany}, {create(there, full[1:]), api.OK},
		{put(there, nil, deep), api.ErrDeep}, {put(there, nil, full), api.ErrMany}, {put(seq(id(), plunge("p")), under(nil, "p"), deep), api.OK}, {put(back, under(nil, "p"), under(chain(11), "p")), api.OK},
		{get(seq(plunge("p"), always(nil, nil)), deep), api.ErrDeep}, {get(seq(plunge("p"), filter(set())), full), api.ErrMany}, {get(fork(set("d"), set("p"), there, id()), deep), api.ErrDeep}, {get(each(there), deep), api.OK}, {get(each(seq(plunge("p"), plunge("p"), filter(set()))), deep), api.ErrDeep},
	})
}

// P1102, P6: of several errors the first one: a LFork's first kid's, its second's, its own, its tree's.
func TestForkErrors(t *testing.T) {
	wide := row(399, "r")
	kind, deep, many := hoist("none"), seq(always(chain(12), nil), plunge("p")), seq(always(row(400, "r"), nil), plunge("p"))
	stray := always(of("stray"), nil)
	n := set("a")
	ask(t, []asked{
		{get(fork(n, n, kind, deep), of("a", "b")), api.ErrKind}, {get(fork(n, n, deep, kind), of("a", "b")), api.ErrDeep}, {get(fork(n, n, many, deep), nil), api.ErrMany}, {get(fork(n, n, deep, many), nil), api.ErrDeep}, {get(fork(n, n, stray, many), nil), api.ErrMany}, {get(fork(n, n, id(), kind), of("a")), api.ErrKind},
		{get(fork(n, n, stray, always(wide, nil)), nil), api.ErrKind}, {get(fork(n, n, always(row(400, "r"), nil), always(row(400, "r"), nil)), nil), api.ErrKind}, {get(fork(n, n, always(of("a"), nil), always(row(400, "r"), nil)), nil), api.ErrMany}, {get(fork(n, n, always(of("a"), nil), always(wide, nil)), nil), api.OK},
		{create(fork(n, n, hoist("a"), always(nil, wide)), nil), api.OK}, {create(fork(n, n, hoist("b"), always(of("x"), nil)), nil), api.ErrKind}, {create(fork(n, n, always(nil, chain(12)), hoist("p")), chain(12)), api.ErrDeep}, {create(fork(n, n, always(of("x"), nil), hoist("p")), chain(12)), api.ErrKind}, {create(fork(n, n, hoist("stray"), hoist("p")), chain(12)), api.ErrDeep},
		{put(fork(n, n, always(of("x"), nil), hoist("p")), chain(12), nil), api.ErrKind}, {put(fork(n, n, hoist("p"), always(of("x"), nil)), under(chain(11), "a"), nil), api.ErrDeep}, {put(fork(n, n, hoist("stray"), hoist("p")), chain(12), nil), api.ErrDeep}, {put(fork(n, n, hoist("stray"), always(nil, nil)), nil, row(400, "r")), api.ErrKind}, {put(fork(n, n, hoist("a"), always(nil, nil)), nil, row(400, "r")), api.ErrMany},
	})
}

// P1102, P6: of a LMap the first edge's error, and its own tree's behind all of them.
func TestMapErrors(t *testing.T) {
	deep := func(name string, below ...api.Edge) api.Tree {
		return api.Tree{e("a", chain(11)...), e(name, below...)}
	}
	there := seq(rename("q", "r"), plunge("p"))
	far := seq(rename("q", "r"), plunge("p"), plunge("p"))
	wide := seq(rename("q", "r"), always(row(300, "r"), nil))
	back := seq(hoist("p"), rename("q", "r"))
	farBack := seq(hoist("p"), hoist("p"), rename("q", "r"))
	ask(t, []asked{
		{get(each(far), deep("k", e("r"))), api.ErrDeep}, {get(each(far), api.Tree{e("A", e("r")), e("a", chain(11)...)}), api.ErrKind},
		{get(each(there), deep("k", e("r"))), api.ErrKind}, {get(each(there), deep("k", e("q"))), api.ErrDeep}, {get(each(wide), api.Tree{e("a"), e("b"), e("k", e("r"))}), api.ErrKind}, {get(each(wide), api.Tree{e("a"), e("b"), e("k", e("q"))}), api.ErrMany},
		{create(each(farBack), deep("k", e("q"))), api.ErrDeep}, {create(each(farBack), api.Tree{e("A", e("q")), e("a", chain(11)...)}), api.ErrKind}, {create(each(back), deep("k", e("q"))), api.ErrKind}, {create(each(back), deep("k", e("r"))), api.ErrDeep},
		{put(each(farBack), deep("k", e("q")), nil), api.ErrDeep}, {put(each(back), deep("k", e("q")), nil), api.ErrKind}, {put(each(back), deep("k", e("r")), nil), api.ErrDeep}, {put(each(back), api.Tree{e("a"), e("k", e("q"))}, of("a")), api.ErrKind}, {put(each(back), api.Tree{e("a", e("q")), e("k")}, api.Tree{e("k", e("p"))}), api.ErrKind},
	})
}

// P1102, P6: errors of Get on the way of a LSeq's Put come first; Create has no such way.
func TestSeqErrors(t *testing.T) {
	l := seq(plunge("p"), hoist("p"), plunge("q"))
	ask(t, []asked{
		{put(l, of("x"), chain(12)), api.ErrDeep}, {put(l, of("x"), row(400, "r")), api.ErrMany}, {put(l, of("x"), nil), api.ErrKind}, {create(l, of("x")), api.ErrKind}, {put(l, under(chain(11), "q"), nil), api.OK}, {create(l, under(chain(11), "q")), api.OK},
		{put(seq(hoist("a"), hoist("b"), hoist("c")), chain(12), of("z")), api.ErrKind}, {put(seq(hoist("a"), hoist("b"), hoist("c")), chain(12), under(nil, "a", "b")), api.ErrDeep}, {put(seq(hoist("a"), hoist("b"), hoist("c")), nil, under(nil, "a", "z")), api.ErrKind}, {put(seq(hoist("a"), hoist("b"), hoist("c")), nil, under(nil, "a", "b")), api.OK},
		{create(seq(rename("a", "b"), hoist("p")), chain(12)), api.ErrDeep}, {create(seq(rename("p", "b"), hoist("p")), nil), api.ErrKind}, {create(seq(hoist("p"), rename("a", "b")), under(chain(11), "a")), api.ErrKind}, {create(seq(hoist("p"), rename("a", "b")), chain(12)), api.ErrDeep},
	})
}

// P1102: a lens as great as it may be, and one as deep, are gone through.
func TestGreatLens(t *testing.T) {
	for n := 1; n <= 40; n++ {
		if x := get(parts(n), abc()); !same(x, ok(abc())) {
			t.Errorf("P1102: %d parts: %v", n, x)
		}
		if x := put(parts(n), of("x"), abc()); !same(x, ok(of("x"))) {
			t.Errorf("P1102: %d parts: %v", n, x)
		}
	}
	deep := nested(12, rename("d", "z"))
	want := under(of("z"), "d", "d", "d", "d", "d", "d", "d", "d", "d", "d", "d")
	if x := get(deep, chain(12)); !same(x, ok(want)) {
		t.Errorf("P1102: 12 deep: %v", x)
	}
	if x := create(deep, want); !same(x, ok(chain(12))) {
		t.Errorf("P1102: 12 deep: %v", x)
	}
	if x := put(deep, want, nil); !same(x, ok(chain(12))) || tree.Depth(x.t) != 12 {
		t.Errorf("P1102: 12 deep: %v", x)
	}
}
