package code_test

import (
	"bytes"
	"math"
	"strings"
	"testing"

	"cadence/api"
	"cadence/code"
)

// bytesOf are n's 64 bits, written out here anew so that the package is not its own witness.
func bytesOf(n int) []byte {
	b := make([]byte, 8)
	for i := range b {
		b[i] = byte(n >> (8 * i) & 255)
	}
	return b
}

func numbers() []int {
	return []int{0, 1, -1, -2, 127, 128, 255, 256, 257, -255, -256, -257, 65535, 65536, 1 << 31, -1 << 31, 1 << 40, 0x0102030405060708, -0x0102030405060708, math.MaxInt64, math.MinInt64}
}

func texts() []string {
	return []string{"", "a", "hi", "\x00", "\n\r", "\xff\xfe", "\xc3\xa9", strings.Repeat("x", 255), strings.Repeat("y", 256), strings.Repeat("z", 300), strings.Repeat("ab", 20000), strings.Repeat("q", 65535)}
}

// The chapter's example.
func TestExample(t *testing.T) {
	want := []byte{254, 255, 255, 255, 255, 255, 255, 255}
	if got := code.Int(nil, -2); !bytes.Equal(got, want) {
		t.Errorf("P101: Int(nil, -2) is %v", got)
	}
}

// P101: Int.
func TestInt(t *testing.T) {
	if got, want := code.Int(nil, 0x0102030405060708), []byte{8, 7, 6, 5, 4, 3, 2, 1}; !bytes.Equal(got, want) {
		t.Errorf("P101: the lowest byte is not first: %v", got)
	}
	if got, want := code.Int(nil, math.MinInt64), []byte{0, 0, 0, 0, 0, 0, 0, 128}; !bytes.Equal(got, want) {
		t.Errorf("P101: the least number: %v", got)
	}
	for _, n := range numbers() {
		if got, want := code.Int([]byte("ab"), n), append([]byte("ab"), bytesOf(n)...); !bytes.Equal(got, want) {
			t.Errorf("P101: Int of %d: %v", n, got)
		}
		if got := code.Int(nil, n); !bytes.Equal(got, code.Int([]byte{}, n)) || !bytes.Equal(got, bytesOf(n)) {
			t.Errorf("P101, P2: Int of %d behind nothing: %v", n, got)
		}
	}
}

// P101: Byte.
func TestByte(t *testing.T) {
	for n, want := range map[int]byte{0: 0, 1: 1, 255: 255, 256: 0, 257: 1, 0x1234: 0x34, -1: 255, -2: 254, -256: 0, -257: 255, math.MaxInt64: 255, math.MinInt64: 0} {
		if got := code.Byte([]byte{7, 9}, n); !bytes.Equal(got, []byte{7, 9, want}) {
			t.Errorf("P101: Byte of %d: %v", n, got)
		}
		if got := code.Byte(nil, n); !bytes.Equal(got, []byte{want}) {
			t.Errorf("P101: Byte of %d behind nothing: %v", n, got)
		}
	}
}

// P101: Text.
func TestText(t *testing.T) {
	if got, want := code.Text([]byte{5}, "ab"), []byte{5, 2, 0, 'a', 'b'}; !bytes.Equal(got, want) {
		t.Errorf("P101: Text of ab: %v", got)
	}
	if got := code.Text(nil, ""); !bytes.Equal(got, []byte{0, 0}) {
		t.Errorf("P101: Text of nothing: %v", got)
	}
	for _, s := range texts() {
		want := "ahead" + string([]byte{byte(len(s) % 256), byte(len(s) / 256)}) + s
		if got := code.Text([]byte("ahead"), s); string(got) != want {
			t.Errorf("P101: Text of %d bytes", len(s))
		}
	}
}

// P101: of a text that is too long its first 65535 bytes.
func TestLongText(t *testing.T) {
	first := strings.Repeat("abcde", 13107)
	for _, more := range []string{"", "x", "xy", strings.Repeat("x", 65536), strings.Repeat("x", 200000)} {
		got := code.Text([]byte{3}, first+more)
		if string(got) != "\x03\xff\xff"+first {
			t.Errorf("P101: Text of %d bytes is %d long", len(first+more), len(got))
		}
	}
}

// writers are the three calls that write, each of one fixed thing.
func writers() map[string]func([]byte) []byte {
	return map[string]func([]byte) []byte{
		"Int":  func(b []byte) []byte { return code.Int(b, -7) },
		"Byte": func(b []byte) []byte { return code.Byte(b, 200) },
		"Text": func(b []byte) []byte { return code.Text(b, "some text") },
	}
}

// P2: what is handed in, its spare room too, stays as it is.
func TestWritersLeaveWhatIsHandedIn(t *testing.T) {
	for name, write := range writers() {
		room := bytes.Repeat([]byte{0xEE}, 64)
		write(room[:2])
		if !bytes.Equal(room, bytes.Repeat([]byte{0xEE}, 64)) {
			t.Errorf("P2: %s wrote into what it was handed", name)
		}
	}
}

// P2: an answer shares no memory with what was handed in, nor with another answer.
func TestWritersAnswerNewMemory(t *testing.T) {
	for name, write := range writers() {
		room := bytes.Repeat([]byte{0xEE}, 64)
		one, two := write(room[:2]), write(room[:2])
		want := bytes.Clone(two)
		for i := range one[:cap(one)] {
			one[:cap(one)][i] = 0x11
		}
		if !bytes.Equal(two, want) || !bytes.Equal(room, bytes.Repeat([]byte{0xEE}, 64)) {
			t.Errorf("P2: what %s answered shares memory", name)
		}
		for i := range room {
			room[i] = 0x22
		}
		if !bytes.Equal(two, want) {
			t.Errorf("P2: what %s answered changed with what it was handed", name)
		}
	}
}

// P3: the same calls answer the same.
func TestWritersAgain(t *testing.T) {
	for name, write := range writers() {
		if !bytes.Equal(write([]byte{1}), write([]byte{1})) {
			t.Errorf("P3: %s", name)
		}
	}
}

// P102: one behind the other, from the front.
func TestRead(t *testing.T) {
	r := code.New([]byte("\xfe\xff\xff\xff\xff\xff\xff\xff\xc8\x02\x00hi\x00\x00\x08\x07\x06\x05\x04\x03\x02\x01\x00"))
	if n := r.Int(); n != -2 {
		t.Errorf("P102: Int is %d", n)
	}
	if n := r.Byte(); n != 200 {
		t.Errorf("P102: Byte is %d", n)
	}
	if s := r.Text(); s != "hi" {
		t.Errorf("P102: Text is %q", s)
	}
	if s := r.Text(); s != "" {
		t.Errorf("P102: Text is %q", s)
	}
	if n := r.Int(); n != 0x0102030405060708 {
		t.Errorf("P102: Int is %x", n)
	}
	if e := r.End(); e != api.ErrMore {
		t.Errorf("P102: End ahead of the last byte is %v", e)
	}
	if n, e := r.Byte(), r.End(); n != 0 || e != api.OK {
		t.Errorf("P102: the last byte: %d, %v", n, e)
	}
}

// P102: Byte is from 0 to 255.
func TestReadEveryByte(t *testing.T) {
	for n := range 256 {
		r := code.New([]byte{byte(n)})
		if got, e := r.Byte(), r.End(); got != n || e != api.OK {
			t.Errorf("P102: byte %d: %d, %v", n, got, e)
		}
	}
}

// P102: a text's length has two bytes, the lowest first.
func TestReadLongText(t *testing.T) {
	want := strings.Repeat("w", 0x0102)
	r := code.New([]byte("\x02\x01" + want + "!"))
	if s := r.Text(); s != want {
		t.Errorf("P102: a text of %d bytes", len(s))
	}
	if n, e := r.Byte(), r.End(); n != '!' || e != api.OK {
		t.Errorf("P102: behind it: %d, %v", n, e)
	}
}

// P102: nothing to read is no error, till it is asked for.
func TestReadNothing(t *testing.T) {
	for _, b := range [][]byte{nil, {}} {
		if e := code.New(b).End(); e != api.OK {
			t.Errorf("P102: End of nothing is %v", e)
		}
	}
}

// readers are the three calls that read; each tells whether it answered its zero value.
func readers() map[string]func(*code.Reader) bool {
	return map[string]func(*code.Reader) bool{
		"Int":  func(r *code.Reader) bool { return r.Int() == 0 },
		"Byte": func(r *code.Reader) bool { return r.Byte() == 0 },
		"Text": func(r *code.Reader) bool { return r.Text() == "" },
	}
}

// allZero tells whether whatever is read answers zero values, twice, and leaves the error e.
func allZero(r *code.Reader, e api.Errno) bool {
	for range 2 {
		for _, zero := range readers() {
			if !zero(r) || r.End() != e {
				return false
			}
		}
	}
	return true
}

// P102: ErrCut, where bytes lack; then nothing more is read, though bytes were left.
func TestCut(t *testing.T) {
	for name, bs := range map[string][]string{
		"Int":  {"", "\x01", "\x01\x02\x03", "\x01\x02\x03\x04\x05\x06\x07"},
		"Byte": {""},
		"Text": {"", "\x01", "\x00", "\x01\x00", "\x02\x00a", "\x05\x00abcd", "\x00\x01abcdefg", "\xff\xff" + strings.Repeat("x", 65534)},
	} {
		for _, b := range bs {
			r := code.New([]byte(b))
			if !readers()[name](r) || r.End() != api.ErrCut {
				t.Errorf("P102: %s of %d bytes is not cut: %v", name, len(b), r.End())
			}
			if !allZero(r, api.ErrCut) {
				t.Errorf("P102: %s of %d bytes: what is read behind the error", name, len(b))
			}
		}
	}
}

// P102: just enough bytes are no error.
func TestNotCut(t *testing.T) {
	for name, b := range map[string]string{"Int": "\x00\x00\x00\x00\x00\x00\x00\x00", "Byte": "\x00", "Text": "\x00\x00"} {
		r := code.New([]byte(b))
		if !readers()[name](r) || r.End() != api.OK {
			t.Errorf("P102: %s of just enough bytes: %v", name, r.End())
		}
		if !readers()[name](r) || r.End() != api.ErrCut {
			t.Errorf("P102: %s of no more bytes: %v", name, r.End())
		}
	}
}

// P102: what was read ahead of the error was right, and the error is the first one.
func TestCutLater(t *testing.T) {
	r := code.New([]byte{1, 2, 3, 4})
	if n := r.Byte(); n != 1 || r.Int() != 0 || r.End() != api.ErrCut {
		t.Errorf("P102: %d, %v", n, r.End())
	}
	r.Fail(api.ErrBad)
	r.Fail(api.OK)
	if !allZero(r, api.ErrCut) {
		t.Errorf("P102: the first error does not stay: %v", r.End())
	}
}

// P102: Fail.
func TestFail(t *testing.T) {
	full := []byte("\x01\x00a\x01\x00a\x01\x00a\x01\x00a\x01\x00a")
	for _, e := range []api.Errno{api.ErrArg, api.ErrCut, api.ErrMore, api.ErrBad, api.ErrWord, 99, -1} {
		r := code.New(full)
		r.Fail(e)
		r.Fail(api.OK)
		r.Fail(api.ErrDeep)
		if r.End() != e || !allZero(r, e) {
			t.Errorf("P102: Fail of %d: %d", e, r.End())
		}
		r = code.New(nil)
		r.Fail(e)
		if !allZero(r, e) {
			t.Errorf("P102: Fail of %d, no bytes: %d", e, r.End())
		}
	}
}

// P102: Fail of OK does nothing.
func TestFailOK(t *testing.T) {
	r := code.New([]byte{4, 5})
	r.Fail(api.OK)
	if n, e := r.Byte(), r.End(); n != 4 || e != api.ErrMore {
		t.Errorf("P102: behind Fail of OK: %d, %v", n, e)
	}
	r.Fail(api.OK)
	if n, e := r.Byte(), r.End(); n != 5 || e != api.OK {
		t.Errorf("P102: behind Fail of OK: %d, %v", n, e)
	}
}

// P102, P5: End's ErrMore is answered, not kept: what is left is read behind it, and another error may come.
func TestEndKeepsNothing(t *testing.T) {
	r := code.New([]byte("\x07\x01\x00a"))
	if r.End() != api.ErrMore || r.End() != api.ErrMore {
		t.Errorf("P102: End is %v", r.End())
	}
	if n, e := r.Byte(), r.End(); n != 7 || e != api.ErrMore {
		t.Errorf("P102, P5: behind End: %d, %v", n, e)
	}
	if s, e := r.Text(), r.End(); s != "a" || e != api.OK {
		t.Errorf("P102, P5: behind End: %q, %v", s, e)
	}
	r = code.New([]byte{1})
	if r.End() != api.ErrMore {
		t.Errorf("P102: End is %v", r.End())
	}
	r.Fail(api.ErrName)
	if e := r.End(); e != api.ErrName {
		t.Errorf("P102, P5: Fail behind End's ErrMore: %v", e)
	}
}

// P2: a Reader neither changes nor keeps what it is handed.
func TestReaderKeepsNothing(t *testing.T) {
	b := []byte("\x09\x02\x00hi\x01\x00\x00\x00\x00\x00\x00\x00spare")
	was := bytes.Clone(b)
	r := code.New(b[:13])
	n, s := r.Byte(), r.Text()
	if !bytes.Equal(b, was) {
		t.Error("P2: reading changed what was handed in")
	}
	for i := range b {
		b[i] = 0x55
	}
	if n != 9 || s != "hi" || r.Int() != 1 || r.End() != api.OK {
		t.Error("P2: the Reader kept what was handed in")
	}
}

// P7: Readers of the same bytes do not touch one another.
func TestReadersSideBySide(t *testing.T) {
	b := []byte{1, 2, 3}
	one, two := code.New(b), code.New(b)
	if one.Byte() != 1 || one.Byte() != 2 || two.Byte() != 1 {
		t.Error("P7: one moves with the other one")
	}
	one.Fail(api.ErrBad)
	if two.Byte() != 2 || two.Byte() != 3 || two.End() != api.OK || one.End() != api.ErrBad {
		t.Error("P7: one fails with the other one")
	}
}

// P103: each thing alone.
func TestBackAlone(t *testing.T) {
	for _, n := range numbers() {
		r := code.New(code.Int(nil, n))
		if got := r.Int(); got != n || r.End() != api.OK {
			t.Errorf("P103: %d: %d, %v", n, got, r.End())
		}
		r = code.New(code.Byte(nil, n))
		if got := r.Byte(); got != n&255 || r.End() != api.OK {
			t.Errorf("P103: byte %d: %d, %v", n, got, r.End())
		}
	}
	for _, s := range texts() {
		r := code.New(code.Text(nil, s))
		if got := r.Text(); got != s || r.End() != api.OK {
			t.Errorf("P103: a text of %d bytes: %d, %v", len(s), len(got), r.End())
		}
	}
}

// P103: all of them behind each other; of what was written any piece off the end is cut.
func TestBackTogether(t *testing.T) {
	var b []byte
	for _, n := range numbers() {
		b = code.Byte(code.Int(code.Text(b, strings.Repeat("\x00", n&7)), n), n)
	}
	if e := readNumbers(code.New(b)); e != api.OK {
		t.Errorf("P103: %v", e)
	}
	if e := readNumbers(code.New(append(bytes.Clone(b), 0))); e != api.ErrMore {
		t.Errorf("P102: with a byte behind: %v", e)
	}
	for n := range b {
		if e := readNumbers(code.New(b[:n])); e != api.ErrCut {
			t.Errorf("P102: the first %d bytes: %v", n, e)
		}
	}
}

// readNumbers reads what TestBackTogether writes; ErrBad, if something else was read.
func readNumbers(r *code.Reader) api.Errno {
	for _, n := range numbers() {
		s, m, k := r.Text(), r.Int(), r.Byte()
		if e := r.End(); e != api.OK && e != api.ErrMore {
			return e
		}
		if s != strings.Repeat("\x00", n&7) || m != n || k != n&255 {
			return api.ErrBad
		}
	}
	return r.End()
}
