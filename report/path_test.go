package report_test

import (
	"slices"
	"strings"
	"testing"

	"cadence/api"
	"cadence/report"
	"cadence/tree"
)

// P1401: Path.
func TestPath(t *testing.T) {
	for i, x := range []struct {
		p    []string
		want string
	}{
		{nil, "/"}, {[]string{}, "/"}, {[]string{"a", "b"}, `/"a"/"b"`}, {[]string{"a"}, `/"a"`}, {[]string{"b", "a", "b"}, `/"b"/"a"/"b"`},
		{[]string{""}, `/""`}, {[]string{"", ""}, `/""/""`}, {[]string{"", "a", ""}, `/""/"a"/""`},
		{[]string{"/"}, `/"/"`}, {[]string{"a/b", "c"}, `/"a/b"/"c"`}, {[]string{`a"/"b`}, `/"a\"/\"b"`}, {[]string{`"`}, `/"\""`}, {[]string{`\`}, `/"\\"`}, {[]string{`\\`}, `/"\\\\"`}, {[]string{`\x41`}, `/"\\x41"`}, {[]string{`\`, `"`}, `/"\\"/"\""`},
		{[]string{"\x00\t\n\r\x1f !"}, `/"\x00\x09\x0a\x0d\x1f !"`}, {[]string{"~\x7f\x80\xab\xff"}, `/"~\x7f\x80\xab\xff"`}, {[]string{"é", "€"}, `/"\xc3\xa9"/"\xe2\x82\xac"`}, {[]string{"\ufffd"}, `/"\xef\xbf\xbd"`},
		{[]string{`a": {}`, `{`, `: {}}`, `{"a": {}}`, `": {}}`}, `/"a\": {}"/"{"/": {}}"/"{\"a\": {}}"/"\": {}}"`},
		{[]string{"}", ":", " ", ", ", `"{`}, `/"}"/":"/" "/", "/"\"{"`},
	} {
		if got := report.Path(x.p); got != x.want {
			t.Errorf("P1401: %d: %s, not %s", i, got, x.want)
		}
		if plainPath(x.p) != x.want || !isPath(x.want) {
			t.Errorf("%d: the test's own", i)
		}
	}
}

// P1401: each byte, quoted as tree.Text has it, alone and among others.
func TestPathBytes(t *testing.T) {
	for n := range 256 {
		c := string([]byte{byte(n)})
		for _, name := range []string{c, c + c, "a" + c + "b", `\` + c, c + `"`} {
			text := tree.Text(api.Tree{{Name: name}})
			want := "/" + text[len("{"):len(text)-len(": {}}")]
			if got := report.Path([]string{name}); got != want || got != plainPath([]string{name}) {
				t.Errorf("P1401: %q: %s, not %s", name, got, want)
			}
		}
	}
}

// P1401: whatever names.
func TestPathThrown(t *testing.T) {
	d := &die{141}
	for range 5000 {
		p := d.path()
		if got := report.Path(p); got != plainPath(p) {
			t.Fatalf("P1401: %q: %s", p, got)
		}
	}
}

// P1401, P1: names of any length, and as many; Path has no bound, though ParsePath has one.
func TestPathLong(t *testing.T) {
	for _, n := range []int{80, 81, 3997, 3998, 4000, 65535, 65536, 1000000} {
		a, b := strings.Repeat("x", n), strings.Repeat("\n", n)
		if report.Path([]string{a}) != `/"`+a+`"` || report.Path([]string{"a", b}) != `/"a"/"`+strings.Repeat(`\x0a`, n)+`"` {
			t.Errorf("P1401: a name of %d bytes", n)
		}
	}
	if report.Path(slices.Repeat([]string{"a"}, 100000)) != strings.Repeat(`/"a"`, 100000) {
		t.Error("P1401: many names")
	}
}

// P1402: no two paths have one text.
func TestOnePath(t *testing.T) {
	d := &die{142}
	l := [][]string{nil, {""}, {"", ""}, {"/"}, {"a", "b"}, {"a/b"}, {`a"/"b`}, {`a\`, `b`}, {`a\"`, `b`}, {`\n`}, {"\n"}, {`\x0a`}, {`\\`}, {`\`, `\`}}
	for range 5000 {
		l = append(l, d.path())
	}
	by := map[string]string{}
	for _, p := range l {
		s := report.Path(p)
		if was, is := by[s]; is && was != told(p) {
			t.Errorf("P1402: %s and %s are both %s", was, told(p), s)
		}
		by[s] = told(p)
	}
}
