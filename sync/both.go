package sync

import (
	"cmp"

	"cadence/api"
)

// pair is a thing of a's, and the like of b's.
type pair[T any] struct{ a, b T }

// outcome is what comes of something that may have an error.
type outcome[T any] struct {
	x T
	e api.Errno
}

// both does the same with both, side by side. It waits for both, whichever is done first, and then a's error counts first.
func both[T, U any](x pair[T], do func(T) (U, api.Errno)) (pair[U], api.Errno) {
	fromA, fromB := begun(x.a, do), begun(x.b, do)
	var made pair[outcome[U]]
	for range 2 {
		select {
		case made.a = <-fromA:
		case made.b = <-fromB:
		}
	}
	if e := cmp.Or(made.a.e, made.b.e); e != api.OK {
		return pair[U]{}, e
	}
	return pair[U]{made.a.x, made.b.x}, api.OK
}

// begun has a worker of its own, which sends once and then touches nothing any more; its channel has room for that, so that no worker waits for the other one.
func begun[T, U any](x T, do func(T) (U, api.Errno)) <-chan outcome[U] {
	done := make(chan outcome[U], 1)
	go func() {
		y, e := do(x)
		done <- outcome[U]{y, e}
	}()
	return done
}
