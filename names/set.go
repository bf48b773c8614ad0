package names

import (
	"cmp"
	"slices"

	"cadence/api"
)

// set is a set whose L is in order, each once. Its fields are those of api.Names, so that a set of texts converts to one.
type set[T cmp.Ordered] struct {
	All bool
	L   []T
}

// from is n's names; it shares no memory with n.
func from(n api.Names) set[string] { return set[string]{n.All, ordered(n.L)} }

func (s set[T]) has(x T) bool {
	_, listed := slices.BinarySearch(s.L, x)
	return listed != s.All
}

// combine has what op is true of, told whether it is in a, and in b. Whatever neither a nor b lists fares alike, by their All; so only what either lists is asked for, and listed where it fares otherwise.
func combine[T cmp.Ordered](a, b set[T], op func(inA, inB bool) bool) set[T] {
	c := set[T]{All: op(a.All, b.All)}
	for _, x := range ordered(slices.Concat(a.L, b.L)) {
		if op(a.has(x), b.has(x)) != c.All {
			c.L = append(c.L, x)
		}
	}
	return c
}

// ordered is what is in l, in order, each once; l stays as it is.
func ordered[T cmp.Ordered](l []T) []T {
	fresh := slices.Clone(l)
	slices.Sort(fresh)
	return slices.Compact(fresh)
}

// split parts l by what is asked of each; the order stays.
func split[S ~[]T, T any](l S, is func(T) bool) (yes, no S) {
	for _, x := range l {
		if is(x) {
			yes = append(yes, x)
		} else {
			no = append(no, x)
		}
	}
	return yes, no
}
