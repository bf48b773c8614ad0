package tree_test

import (
	"strings"
	"testing"

	"cadence/api"
	"cadence/tree"
)

// plainBytes is what P203 says of Bytes, anew.
func plainBytes(t api.Tree) string {
	s := string([]byte{byte(len(t) % 256), byte(len(t) / 256)})
	for _, x := range t {
		s += string([]byte{byte(len(x.Name) % 256), byte(len(x.Name) / 256)}) + x.Name + plainBytes(x.T)
	}
	return s
}

// P203: Bytes.
func TestBytes(t *testing.T) {
	for i, x := range []struct {
		t    api.Tree
		want string
	}{
		{nil, "\x00\x00"}, {leaves(""), "\x01\x00\x00\x00\x00\x00"}, {leaves("a"), "\x01\x00\x01\x00a\x00\x00"},
		{api.Tree{e("a", e("bc")), e("d")}, "\x02\x00\x01\x00a\x01\x00\x02\x00bc\x00\x00\x01\x00d\x00\x00"},
	} {
		if got := tree.Bytes(x.t); string(got) != x.want {
			t.Errorf("P203: %d: %q", i, got)
		}
	}
	for _, x := range randoms() {
		if got := tree.Bytes(x); string(got) != plainBytes(x) {
			t.Fatalf("P203: Bytes of %s: %q", plain(x), got)
		}
	}
	if got := tree.Bytes(row(400)); string(got[:4]) != "\x90\x01\x07\x00" {
		t.Errorf("P203: how many edges: %q", got[:4])
	}
}

// P204: what was written is read as it was; with a piece less, or a byte more, it is not (P203).
func TestBack(t *testing.T) {
	for _, x := range randoms() {
		b := tree.Bytes(x)
		if y, e := tree.Parse(b); e != api.OK || plain(y) != plain(x) {
			t.Fatalf("P204: %s: %v, %v", plain(x), y, e)
		}
		for n := range b {
			if y, e := tree.Parse(b[:n]); e != api.ErrCut || y != nil {
				t.Fatalf("P203, P4: the first %d bytes of %s: %v, %v", n, plain(x), y, e)
			}
		}
		if y, e := tree.Parse(append(b, 0)); e != api.ErrMore || y != nil {
			t.Fatalf("P203, P4: a byte behind %s: %v, %v", plain(x), y, e)
		}
	}
}

// P203: Parse finds what Check finds, whatever was written.
func TestParseFaults(t *testing.T) {
	long, lower := strings.Repeat("x", 81), strings.Repeat("a", 81)
	for i, x := range []api.Tree{
		row(401), chain(11, row(390)...), append(row(399), e("a", e("b"))), append(row(400), e(long)), append(row(400), e("")), append(row(399), e("", leaves("a", "b")...)),
		chain(13), chain(100), chain(12, e(long)), chain(11, append(row(387), e("a", e(long)))...), chain(11, append(row(388), e("a", e(long)))...), chain(11, append(row(389), e("a", e(long)))...),
		leaves(long), chain(11, e(long)), leaves("b", lower), {e("b", e(long)), e("a")}, {e("b", e("c")), e("a", e(long))},
		leaves("b", "a"), leaves("a", "a"), leaves("", ""), leaves("a", "c", "b"), {e("a", leaves("c", "b")...), e("b", chain(12)...)}, {e("a", chain(12)...), e("b", leaves("c", "b")...)},
	} {
		want := tree.Check(x)
		if y, e := tree.Parse([]byte(plainBytes(x))); want == api.OK || e != want || y != nil {
			t.Errorf("P203, P4: %d: %v, not %v", i, e, want)
		}
		if y, e := tree.Parse([]byte(plainBytes(x) + "more")); e != want || y != nil {
			t.Errorf("P203: %d, with more behind it: %v, not %v", i, e, want)
		}
	}
}

// P203: a fault is told as soon as the name is read, not later, and not ahead of that.
func TestParseWhen(t *testing.T) {
	deep, many := strings.Repeat("\x01\x00\x00\x00", 12), plainBytes(row(400))[2:]
	for i, x := range []struct {
		s    string
		want api.Errno
	}{
		{"", api.ErrCut}, {"\x00", api.ErrCut}, {"\x01", api.ErrCut}, {"\x00\x00", api.OK}, {"\x00\x00\x00", api.ErrMore}, {"\xff\xff", api.ErrCut}, {"\x00\x01", api.ErrCut},
		{"\x01\x00\x51\x00" + strings.Repeat("x", 80), api.ErrCut}, {"\x01\x00\x51\x00" + strings.Repeat("x", 81), api.ErrLong}, {"\x01\x00\x50\x00" + strings.Repeat("x", 80), api.ErrCut}, {"\x01\x00\xff\xff" + strings.Repeat("x", 65535), api.ErrLong},
		{"\x02\x00\x01\x00b\x00\x00\x01\x00", api.ErrCut}, {"\x02\x00\x01\x00b\x00\x00\x01\x00a", api.ErrName}, {"\x02\x00\x01\x00b\x00\x00\x00\x00", api.ErrName}, {"\x02\x00\x01\x00b\x00\x00\x01\x00c", api.ErrCut}, {"\x03\x00\x01\x00b\x00\x00\x01\x00b\x00", api.ErrName},
		{deep, api.ErrCut}, {deep + "\x00\x00", api.OK}, {deep + "\x01\x00", api.ErrCut}, {deep + "\x01\x00\x00", api.ErrCut}, {deep + "\x01\x00\x01\x00", api.ErrCut}, {deep + "\x01\x00\x00\x00", api.ErrDeep}, {deep + "\x01\x00\x01\x00a", api.ErrDeep},
		{"\x91\x01" + many, api.ErrCut}, {"\x91\x01" + many + "\x00", api.ErrCut}, {"\x91\x01" + many + "\x51\x00a", api.ErrCut}, {"\x91\x01" + many + "\x00\x00", api.ErrMany}, {"\x91\x01" + many + "\x51\x00" + strings.Repeat("a", 81), api.ErrMany}, {"\x90\x01" + many, api.OK},
	} {
		y, e := tree.Parse([]byte(x.s))
		if e != x.want || e != api.OK && y != nil {
			t.Errorf("P203: %d: %v, not %v", i, e, x.want)
		}
	}
	if _, e := tree.Parse(nil); e != api.ErrCut {
		t.Errorf("P203: Parse of nothing: %v", e)
	}
}

// P203: Text.
func TestText(t *testing.T) {
	for i, x := range []struct {
		t    api.Tree
		want string
	}{
		{nil, "{}"}, {api.Tree{}, "{}"}, {leaves("a"), `{"a": {}}`}, {leaves(""), `{"": {}}`}, {some(), someText}, {leaves("a", "b", "c"), `{"a": {}, "b": {}, "c": {}}`},
		{api.Tree{e("a", e("b", e("c", e("d")))), e("e", e("f"), e("g")), e("h")}, `{"a": {"b": {"c": {"d": {}}}}, "e": {"f": {}, "g": {}}, "h": {}}`},
		{leaves("\x00\t\n\r\x1f !"), `{"\x00\x09\x0a\x0d\x1f !": {}}`}, {leaves("~\x7f\x80\xab\xff"), `{"~\x7f\x80\xab\xff": {}}`}, {leaves(`"`), `{"\"": {}}`}, {leaves(`\`), `{"\\": {}}`}, {leaves(`\x41"`), `{"\\x41\"": {}}`}, {leaves("é"), `{"\xc3\xa9": {}}`},
		{leaves("{}, :'[]"), `{"{}, :'[]": {}}`},
	} {
		if got := tree.Text(x.t); got != x.want {
			t.Errorf("P203: %d: %s, not %s", i, got, x.want)
		}
	}
}

// P203: every byte, quoted.
func TestQuoted(t *testing.T) {
	for n := range 256 {
		c := byte(n)
		want := string(c)
		switch {
		case c == '"' || c == '\\':
			want = `\` + string(c)
		case c < 32 || c > 126:
			want = `\x` + string([]byte{"0123456789abcdef"[c/16], "0123456789abcdef"[c%16]})
		}
		if got := tree.Text(leaves("<" + string([]byte{c}) + ">")); got != `{"<`+want+`>": {}}` {
			t.Errorf("P203: byte %d: %s", c, got)
		}
	}
}

// P204: two trees with one Text are the same.
func TestOneText(t *testing.T) {
	l := append(randoms(), leaves(`a": {}, "b`), leaves("a", "b"), leaves(`a\x41`), leaves("aA"), leaves(`\n`), leaves("\n"), api.Tree{e("a", e("b"))}, leaves(`\`, `\\`), leaves(`\\`, `\\\`))
	by := map[string]string{}
	for _, x := range l {
		s := tree.Text(x)
		if was, is := by[s]; is && was != plain(x) {
			t.Errorf("P204: %s and %s are both %s", was, plain(x), s)
		}
		by[s] = plain(x)
	}
}
