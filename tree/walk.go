package tree

import (
	"iter"

	"cadence/api"
)

// stack is what is still to be done; the one put last is the next one. Trees are gone through with it, and not by functions that call themselves: a tree may be deeper than calls can be.
type stack[T any] []T

func (s *stack[T]) push(l ...T) { *s = append(*s, l...) }

// pop is called while there is something only.
func (s *stack[T]) pop() T {
	last := len(*s) - 1
	x := (*s)[last]
	*s = (*s)[:last]
	return x
}

// beside is edges that stand beside each other, and how deep.
type beside struct {
	l    api.Tree
	deep int
}

// edges are all of t's, each ahead of what is below it, in order, with how deep it stands (one of the root: 1).
func edges(t api.Tree) iter.Seq2[int, api.Edge] {
	return func(yield func(int, api.Edge) bool) {
		todo := stack[beside]{{t, 1}}
		for len(todo) > 0 {
			b := todo.pop()
			if len(b.l) == 0 {
				continue
			}
			x := b.l[0]
			if !yield(b.deep, x) {
				return
			}
			todo.push(beside{b.l[1:], b.deep}, beside{x.T, b.deep + 1})
		}
	}
}

// clone is t in new memory, all that is below it too: an answer may share none with what was handed in.
func clone(t api.Tree) api.Tree {
	whole := level(t)
	todo := stack[api.Tree]{whole}
	for len(todo) > 0 {
		l := todo.pop()
		for i := range l {
			l[i].T = level(l[i].T)
			todo.push(l[i].T)
		}
	}
	return whole
}

// level is t's edges in new memory; what is below them is t's still.
func level(t api.Tree) api.Tree { return append(api.Tree(nil), t...) }
