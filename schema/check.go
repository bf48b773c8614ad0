package schema

import (
	"slices"

	"cadence/api"
	"cadence/names"
)

// maxNames is how many names a field's list has at most.
const maxNames = 20

func Check(s api.Schema) api.Errno {
	switch {
	case len(s) == 0:
		return api.ErrNone
	case len(s) > api.MaxDefs:
		return api.ErrMany
	}
	return first(s, func(_ int, d api.Def) api.Errno { return checkDef(s, d) })
}

func checkDef(s api.Schema, d api.Def) api.Errno {
	if len(d.Fields) > api.MaxFields {
		return api.ErrMany
	}
	return first(d.Fields, func(i int, f api.Field) api.Errno { return checkField(s, d.Fields[:i], f) })
}

// checkField tells what is wrong with f, behind those ahead of it.
func checkField(s api.Schema, ahead []api.Field, f api.Field) api.Errno {
	long := func(name string) bool { return len(name) > api.MaxName }
	twice := func(g api.Field) bool { return !names.None(names.Both(f.N, g.N)) }
	switch {
	case len(f.N.L) > maxNames:
		return api.ErrMany
	case slices.ContainsFunc(f.N.L, long):
		return api.ErrLong
	case !numbered(s, f.To):
		return api.ErrArg
	case f.Need && f.N.All:
		return api.ErrKind
	case slices.ContainsFunc(ahead, twice):
		return api.ErrTwice
	}
	return api.OK
}

// first is the error of the first one that has one. What is asked of each is told its place, too, as what is ahead of it may count.
func first[T any](l []T, fault func(int, T) api.Errno) api.Errno {
	for i, x := range l {
		if e := fault(i, x); e != api.OK {
			return e
		}
	}
	return api.OK
}
