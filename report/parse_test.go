package report_test

import (
	"slices"
	"strings"
	"testing"

	"cadence/api"
	"cadence/report"
)

// P1401: ParsePath of texts that are paths.
func TestParsePath(t *testing.T) {
	for _, x := range []struct {
		s    string
		want []string
	}{
		{"/", nil}, {`/"a"/"b"`, []string{"a", "b"}}, {`/""`, []string{""}}, {`/""/""/"a"`, []string{"", "", "a"}}, {`/"/"/"//"`, []string{"/", "//"}}, {`/"a\"/\"b"`, []string{`a"/"b`}}, {`/"\\"/"\""`, []string{`\`, `"`}}, {`/"\\\""`, []string{`\"`}}, {`/"\\\\"`, []string{`\\`}},
		{`/"\x00\x1f\x7f\x80\xff"`, []string{"\x00\x1f\x7f\x80\xff"}}, {`/"\x0ab\\x0a"`, []string{"\nb\\x0a"}}, {`/"\xc3\xa9"`, []string{"é"}}, {`/"x41 0a~"`, []string{"x41 0a~"}}, {`/"\\x41"`, []string{`\x41`}}, {`/" "/"{}"/": {}}"`, []string{" ", "{}", ": {}}"}},
	} {
		if p, e := report.ParsePath(x.s); e != api.OK || told(p) != told(x.want) {
			t.Errorf("P1401: %s: %q, %v", x.s, p, e)
		}
	}
}

// P1401, P4: ParsePath of texts that are none.
func TestParsePathBad(t *testing.T) {
	for _, s := range []string{
		"", " ", "//", "/ ", " /", "/\n", "/a", "a", `"`, `""`, `"a"`, `/"`, `/"a`, `/""/`, `/"a"/`, `/"a"/"`, `/"a"/"b`, `/"a"b`, `/"a""b"`, `/"a" /"b"`, `/"a"/ "b"`, `/ "a"`, `//"a"`, `/"a"//"b"`, `/"a"/b`, `/"a"` + "\n", "\n" + `/"a"`, `\"a"`, `/'a'`, `/"a"/"b"/`, `/"a"\/"b"`, `/"a"` + "\x00", "/\x00",
		`/"\`, `/"\"`, `/"\\`, `/"\\\"`, `/"a\`, `/"\x`, `/"\x0`, `/"\x0a`, `/"\x"`, `/"\x0"`, `/"\x0g"`, `/"\xg0"`, `/"\x 0a"`, `/"\x-1"`, `/"\x+1"`, `/"\x0A"`, `/"\xA0"`, `/"\xFF"`, `/"\xfF"`, `/"\X0a"`, `/"\x_a"`,
		`/"\x41"`, `/"\x20"`, `/"\x7e"`, `/"\x22"`, `/"\x5c"`, `/"\x2f"`, `/"\n"`, `/"\t"`, `/"\a"`, `/"\0"`, `/"\/"`, `/"\ "`, `/"\u00e9"`, `/"\012"`, `/"a\ax"`, `/"\'"`,
		"/\"\n\"", "/\"\t\"", "/\"\x00\"", "/\"\x1f\"", "/\"\x7f\"", "/\"\x80\"", "/\"\xff\"", "/\"é\"", "/\"€\"", "/\"\ufffd\"", "/\"\u0141\"", "/\"\u0122", "/\"\u0161\"", "/\"\U00010041\"", "/\"\\\u0122\"", "/\"\\x0\u0161\"", "／\"a\"", "\u012f\"a\"", "\ufeff/", "/\"a\"\ufeff", "/\"\\x\x00\x00\"", "/\"\\x\xff\xff\"",
	} {
		if p, e := report.ParsePath(s); e != api.ErrBad || p != nil {
			t.Errorf("P1401, P4: %q: %q, %v", s, p, e)
		}
		if isPath(s) {
			t.Errorf("the test's own: %q", s)
		}
	}
}

// P1401, P6: ErrLong, of bytes, ahead of ErrBad.
func TestParsePathLong(t *testing.T) {
	for i, x := range []struct {
		s    string
		want api.Errno
	}{
		{long(3999), api.OK}, {long(4000), api.OK}, {long(4001), api.ErrLong}, {long(1000000), api.ErrLong},
		{strings.Repeat(`/"a"`, 1000), api.OK}, {strings.Repeat(`/"a"`, 1000) + `/"a"`, api.ErrLong}, {strings.Repeat(`/""`, 1333), api.OK}, {strings.Repeat(`/""`, 1334), api.ErrLong},
		{`/"b` + strings.Repeat(`\x0a`, 999) + `"`, api.OK}, {`/"bb` + strings.Repeat(`\x0a`, 999) + `"`, api.ErrLong},
		{strings.Repeat("a", 4000), api.ErrBad}, {strings.Repeat("a", 4001), api.ErrLong}, {strings.Repeat("/", 4001), api.ErrLong}, {strings.Repeat(`"`, 1000000), api.ErrLong}, {strings.Repeat(`\`, 4000), api.ErrBad}, {`/"` + strings.Repeat(`\`, 3998), api.ErrBad}, {long(4000)[:3999] + "a", api.ErrBad}, {long(4001)[:4000], api.ErrBad}, {long(3999) + "/", api.ErrBad}, {long(4000) + "/", api.ErrLong},
		{strings.Repeat("é", 2000), api.ErrBad}, {strings.Repeat("é", 2001), api.ErrLong}, {strings.Repeat("€", 1334), api.ErrLong}, {strings.Repeat("\xff", 4000), api.ErrBad}, {strings.Repeat("\xff", 4001), api.ErrLong}, {strings.Repeat("\x00", 4001), api.ErrLong},
	} {
		p, e := report.ParsePath(x.s)
		if e != x.want || e != api.OK && p != nil || e == api.OK && plainPath(p) != x.s {
			t.Errorf("P1401, P4, P6: %d: %d names, %v, not %v", i, len(p), e, x.want)
		}
	}
}

// parsed fails, if ParsePath of s (of at most 4000 bytes) is other than what Path and the form of paths say.
func parsed(t *testing.T, s string) {
	p, e := report.ParsePath(s)
	switch {
	case !isPath(s) && (e != api.ErrBad || p != nil):
		t.Fatalf("P1401, P4: %q, which is Path of none: %q, %v", s, p, e)
	case isPath(s) && (e != api.OK || plainPath(p) != s):
		t.Fatalf("P1401: %q: %q, %v", s, p, e)
	}
}

// P1401: every text of few bytes.
func TestParsePathEvery(t *testing.T) {
	each := []string{""}
	for n := range 256 {
		c := string([]byte{byte(n)})
		for _, s := range []string{c, "/" + c, c + "/", `/"` + c, `/"` + c + `"`, `/"a"` + c, `/"\` + c + `"`, `/"\` + c + c + `"`, `/"\x0` + c + `"`, `/"\x` + c + `0"`} {
			parsed(t, s)
		}
		for k := range 256 {
			parsed(t, `/"\x`+c+string([]byte{byte(k)})+`"`)
		}
	}
	for range 6 {
		var more []string
		for _, s := range each {
			for _, c := range []string{"/", `"`, `\`, "x", "0", "a", "A", "4"} {
				parsed(t, s+c)
				parsed(t, `/"`+s+c+`"`)
				more = append(more, s+c)
			}
		}
		each = more
	}
}

// P1401: a path's text that is changed a little is another one's, or none's; a front of it none's, but where it is one itself.
func TestParsePathChanged(t *testing.T) {
	d := &die{143}
	for range 20000 {
		s := plainPath(d.path())
		parsed(t, s)
		for range 1 + d.of(3) {
			if s != "" {
				s = d.changed(s)
			}
		}
		parsed(t, s)
		for n := range s {
			parsed(t, s[:n])
		}
	}
}

// P1402: what was written is read as it was.
func TestBack(t *testing.T) {
	d := &die{144}
	l := [][]string{nil, {}, {""}, {"", ""}, slices.Repeat([]string{""}, 1333), slices.Repeat([]string{"a"}, 1000), {strings.Repeat("\xff", 999)}, {strings.Repeat(`\`, 1998)}, {strings.Repeat(`"`, 1998)}, {strings.Repeat("/", 3997)}}
	for n := range 256 {
		c := string([]byte{byte(n)})
		l = append(l, []string{c}, []string{c, c}, []string{"a" + c + "b", c}, []string{`\` + c}, []string{c + `\`, `"` + c})
	}
	for range 20000 {
		l = append(l, d.path())
	}
	for _, p := range l {
		if q, e := report.ParsePath(report.Path(p)); e != api.OK || told(q) != told(p) {
			t.Fatalf("P1402: %q: %q, %v", p, q, e)
		}
	}
}
