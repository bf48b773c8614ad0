package lens_test

import (
	"slices"
	"strings"

	"cadence/api"
	"cadence/lens"
	"cadence/tree"
)

// What the chapter says of Get, Put and Create, anew: slowly, and each for itself.

// answer is what a call answers.
type answer struct {
	t api.Tree
	e api.Errno
}

func ok(t api.Tree) answer { return answer{t, api.OK} }

func wrong(e api.Errno) answer { return answer{nil, e} }

// String tells an answer.
func (x answer) String() string { return x.e.Error() + " " + tree.Text(x.t) }

func call(t api.Tree, e api.Errno) answer { return answer{t, e} }

// plainCheck is the error of a tree whose names are in order and short: it may be too great, or too deep.
func plainCheck(t api.Tree) api.Errno {
	n := 0
	var walk func(t api.Tree, deep int) api.Errno
	walk = func(t api.Tree, deep int) api.Errno {
		for _, x := range t {
			n++
			if n > 400 {
				return api.ErrMany
			}
			if deep > 12 {
				return api.ErrDeep
			}
			if e := walk(x.T, deep+1); e != api.OK {
				return e
			}
		}
		return api.OK
	}
	return walk(t, 1)
}

// plainAnswer is x, or the error of its tree.
func plainAnswer(x answer) answer {
	if x.e != api.OK {
		return wrong(x.e)
	}
	if e := plainCheck(x.t); e != api.OK {
		return wrong(e)
	}
	return x
}

func within(n api.Names, name string) bool {
	for _, s := range n.L {
		if s == name {
			return !n.All
		}
	}
	return n.All
}

// plainPart parts t's edges by n.
func plainPart(t api.Tree, n api.Names) (in, out api.Tree) {
	for _, x := range t {
		if within(n, x.Name) {
			in = append(in, x)
		} else {
			out = append(out, x)
		}
	}
	return in, out
}

// plainBoth is all edges of in, out, in order, if they are within n, and not.
func plainBoth(n api.Names, in, out api.Tree) answer {
	if _, stray := plainPart(in, n); stray != nil {
		return wrong(api.ErrKind)
	}
	if stray, _ := plainPart(out, n); stray != nil {
		return wrong(api.ErrKind)
	}
	return ok(inOrder(append(append(api.Tree{}, in...), out...)))
}

func inOrder(t api.Tree) api.Tree {
	slices.SortFunc(t, func(x, y api.Edge) int { return strings.Compare(x.Name, y.Name) })
	return t
}

func plainRename(t api.Tree, from, to string) answer {
	var renamed api.Tree
	for _, x := range t {
		switch x.Name {
		case to:
			return wrong(api.ErrKind)
		case from:
			x.Name = to
		}
		renamed = append(renamed, x)
	}
	return ok(inOrder(renamed))
}

func plainOnly(t api.Tree, name string) answer {
	if len(t) == 1 && t[0].Name == name {
		return ok(t[0].T)
	}
	return wrong(api.ErrKind)
}

func plainGet(l api.Lens, c api.Tree) answer {
	switch l.Op {
	case api.LConst:
		return plainAnswer(ok(l.T))
	case api.LRename:
		return plainAnswer(plainRename(c, l.A, l.B))
	case api.LHoist:
		return plainAnswer(plainOnly(c, l.A))
	case api.LPlunge:
		return plainAnswer(ok(api.Tree{{Name: l.A, T: c}}))
	case api.LFilter:
		in, _ := plainPart(c, l.N)
		return plainAnswer(ok(in))
	case api.LFork:
		in, out := plainPart(c, l.N)
		x := plainGet(l.Kids[0], in)
		if x.e != api.OK {
			return x
		}
		y := plainGet(l.Kids[1], out)
		if y.e != api.OK {
			return y
		}
		return plainAnswer(plainBoth(l.M, x.t, y.t))
	case api.LMap:
		var whole api.Tree
		for _, x := range c {
			y := plainGet(l.Kids[0], x.T)
			if y.e != api.OK {
				return y
			}
			whole = append(whole, api.Edge{Name: x.Name, T: y.t})
		}
		return plainAnswer(ok(whole))
	case api.LSeq:
		x := plainGet(l.Kids[0], c)
		if x.e != api.OK || len(l.Kids) == 1 {
			return x
		}
		return plainGet(api.Lens{Op: api.LSeq, Kids: l.Kids[1:]}, x.t)
	}
	return plainAnswer(ok(c))
}

// plainPut leaves to plainCreate what the chapter has "as Put".
func plainPut(l api.Lens, a, c api.Tree) answer {
	switch l.Op {
	case api.LConst:
		if tree.Text(a) == tree.Text(l.T) {
			return plainAnswer(ok(c))
		}
		return wrong(api.ErrKind)
	case api.LFilter:
		_, unseen := plainPart(c, l.N)
		return plainAnswer(plainBoth(l.N, a, unseen))
	case api.LFork:
		aIn, aOut := plainPart(a, l.M)
		cIn, cOut := plainPart(c, l.N)
		return plainPair(l.N, plainPut(l.Kids[0], aIn, cIn), plainPut(l.Kids[1], aOut, cOut))
	case api.LMap:
		var whole api.Tree
		for _, x := range a {
			y := plainCreate(l.Kids[0], x.T)
			for _, z := range c {
				if z.Name == x.Name {
					y = plainPut(l.Kids[0], x.T, z.T)
				}
			}
			if y.e != api.OK {
				return y
			}
			whole = append(whole, api.Edge{Name: x.Name, T: y.t})
		}
		return plainAnswer(ok(whole))
	case api.LSeq:
		if len(l.Kids) == 1 {
			return plainPut(l.Kids[0], a, c)
		}
		last := len(l.Kids) - 1
		ahead := api.Lens{Op: api.LSeq, Kids: l.Kids[:last]}
		x := plainGet(ahead, c)
		if x.e != api.OK {
			return x
		}
		y := plainPut(l.Kids[last], a, x.t)
		if y.e != api.OK {
			return y
		}
		return plainPut(ahead, y.t, c)
	}
	return plainCreate(l, a)
}

func plainCreate(l api.Lens, a api.Tree) answer {
	switch l.Op {
	case api.LConst:
		if tree.Text(a) == tree.Text(l.T) {
			return plainAnswer(ok(l.U))
		}
		return wrong(api.ErrKind)
	case api.LRename:
		return plainAnswer(plainRename(a, l.B, l.A))
	case api.LHoist:
		return plainAnswer(ok(api.Tree{{Name: l.A, T: a}}))
	case api.LPlunge:
		return plainAnswer(plainOnly(a, l.A))
	case api.LFilter:
		return plainAnswer(plainBoth(l.N, a, nil))
	case api.LFork:
		in, out := plainPart(a, l.M)
		return plainPair(l.N, plainCreate(l.Kids[0], in), plainCreate(l.Kids[1], out))
	case api.LMap:
		var whole api.Tree
		for _, x := range a {
			y := plainCreate(l.Kids[0], x.T)
			if y.e != api.OK {
				return y
			}
			whole = append(whole, api.Edge{Name: x.Name, T: y.t})
		}
		return plainAnswer(ok(whole))
	case api.LSeq:
		last := len(l.Kids) - 1
		x := plainCreate(l.Kids[last], a)
		if x.e != api.OK || last == 0 {
			return x
		}
		return plainCreate(api.Lens{Op: api.LSeq, Kids: l.Kids[:last]}, x.t)
	}
	return plainAnswer(ok(a))
}

// plainPair is what both kids of a LFork make together.
func plainPair(n api.Names, x, y answer) answer {
	switch {
	case x.e != api.OK:
		return x
	case y.e != api.OK:
		return y
	}
	return plainAnswer(plainBoth(n, x.t, y.t))
}

// die throws.
type die struct{ n uint64 }

func (d *die) of(k int) int {
	d.n = d.n*6364136223846793005 + 1442695040888963407
	return int(d.n>>33) % k
}

// letters are the names that are thrown.
const letters = "abcd"

func (d *die) name() string { return string(letters[d.of(len(letters))]) }

// names are some of the letters, or all but some, in any order, some of them twice.
func (d *die) names() api.Names {
	n := api.Names{All: d.of(2) == 0}
	for range d.of(4) {
		n.L = append(n.L, d.name())
	}
	return n
}

// small is a tree at most so deep.
func (d *die) small(deep int) api.Tree {
	var t api.Tree
	for _, name := range strings.Split(letters, "") {
		if deep > 0 && d.of(3) == 0 {
			t = append(t, e(name, d.small(deep-1)...))
		}
	}
	return t
}

// tree is mostly a small one; some are about as deep, as great as a tree may be.
func (d *die) tree() api.Tree {
	t := d.small(3)
	switch d.of(12) {
	case 0:
		t = under(t, slices.Repeat([]string{d.name()}, 7+d.of(3))...)
	case 1:
		t = append(t, row(400-tree.Size(t)-d.of(3), "z")...)
	}
	if plainCheck(t) != api.OK {
		return d.tree()
	}
	return t
}

// lens is one that Check allows, at most so deep.
func (d *die) lens(deep int) api.Lens {
	op := 1 + d.of(9)
	if deep <= 1 {
		op = 1 + d.of(6)
	}
	l := api.Lens{Op: op, A: d.name(), B: d.name(), N: d.names(), M: d.names(), T: d.small(2), U: d.small(2)}
	for range [10]int{api.LFork: 2, api.LMap: 1, api.LSeq: 1 + d.of(4)}[op] {
		l.Kids = append(l.Kids, d.lens(deep-1))
	}
	if lens.Check(l) != api.OK {
		return d.lens(deep)
	}
	return l
}

// view is one that may well be one of c's.
func (d *die) view(l api.Lens, c api.Tree) api.Tree {
	x := plainGet(l, c)
	switch d.of(4) {
	case 0:
		return d.tree()
	case 1:
		x = plainGet(l, d.tree())
	case 2:
		x = plainGet(l, d.changed(c))
	}
	if x.e != api.OK {
		return d.tree()
	}
	return x.t
}

// changed is t with one letter's edge taken away, or put there, somewhere.
func (d *die) changed(t api.Tree) api.Tree {
	name := d.name()
	var fresh api.Tree
	was := false
	for _, x := range t {
		if x.Name == name {
			was = true
			if d.of(3) == 0 {
				continue
			}
			x.T = d.changed(x.T)
		}
		fresh = append(fresh, x)
	}
	if !was {
		fresh = inOrder(append(fresh, e(name, d.small(2)...)))
	}
	if plainCheck(fresh) != api.OK {
		return t
	}
	return fresh
}
