package code

import "math/bits"

// whole are the numbers that are written, by their widths.
type whole interface{ uint8 | uint16 | uint64 }

// number is written in as many bytes as T has, the lowest one first.
type number[T whole] struct{ v T }

func (n number[T]) width() int { return bits.Len64(uint64(^T(0))) / 8 }

func (n number[T]) bytes() []byte {
	b := make([]byte, n.width())
	for i := range b {
		b[i] = byte(uint64(n.v) >> (8 * i))
	}
	return b
}

// set is what bytes undoes; b is width bytes long.
func (n *number[T]) set(b []byte) {
	var v uint64
	for i, x := range b {
		v |= uint64(x) << (8 * i)
	}
	n.v = T(v)
}

// text is the bytes of a text, without its length.
type text string

func (s *text) set(b []byte) { *s = text(b) }

// read is the reader's next number of that width, or 0.
func read[T whole](r *Reader) T {
	var n number[T]
	r.next(n.width(), n.set)
	return n.v
}
