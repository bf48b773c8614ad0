// Package code: bytes. See doc/01-code.md.
package code

import (
	"slices"

	"cadence/api"
)

// longest is how many bytes of a text are written: of more its two bytes of length could not tell.
const longest = 1<<16 - 1

// Reader reads; its first error stays.
type Reader struct {
	rest []byte
	err  api.Errno
}

// New copies b: whose it is may change it while the Reader is in use.
func New(b []byte) *Reader { return &Reader{rest: slices.Clone(b)} }

func (r *Reader) Byte() int { return int(read[uint8](r)) }

func (r *Reader) Int() int { return int(read[uint64](r)) }

func (r *Reader) Text() string {
	var s text
	r.next(int(read[uint16](r)), s.set)
	return string(s)
}

// Fail gives the reader an error, if it has none: the first one tells what went wrong, those behind it only what came of that.
func (r *Reader) Fail(e api.Errno) {
	if r.err == api.OK {
		r.err = e
	}
}

// End leaves the reader as it is: bytes behind the end are no error to one who goes on reading.
func (r *Reader) End() api.Errno {
	if r.err == api.OK && len(r.rest) > 0 {
		return api.ErrMore
	}
	return r.err
}

func Byte(b []byte, v int) []byte {
	return slices.Concat(b, number[uint8]{uint8(v)}.bytes())
}

func Int(b []byte, v int) []byte {
	return slices.Concat(b, number[uint64]{uint64(v)}.bytes())
}

func Text(b []byte, s string) []byte {
	s = s[:min(len(s), longest)]
	return slices.Concat(b, number[uint16]{uint16(len(s))}.bytes(), []byte(s))
}

// next hands the next n bytes to set. Where there is an error set is not called, so that what it would fill keeps its zero value.
func (r *Reader) next(n int, set func([]byte)) {
	if len(r.rest) < n {
		r.Fail(api.ErrCut)
	}
	if r.err != api.OK {
		return
	}
	set(r.rest[:n])
	r.rest = r.rest[n:]
}
