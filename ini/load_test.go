package ini_test

import (
	"fmt"
	"math/rand"
	"strings"
	"testing"

	"cadence/api"
	"cadence/ini"
	"cadence/tree"
)

// loads asks what a file is as a tree.
func loads(t *testing.T, s, want string) {
	t.Helper()
	got, line, err := ini.Load(s)
	if err != api.OK || line != 0 || tree.Text(got) != want {
		t.Errorf("P601, P602: %.200q: %s, %d, %v, not %s", s, tree.Text(got), line, err, want)
	}
}

// refused asks which line of a file is wrong, and how.
func refused(t *testing.T, s string, line int, want api.Errno) {
	t.Helper()
	if got, at, err := ini.Load(s); err != want || at != line || len(got) != 0 {
		t.Errorf("P601, P602, P4: %.200q: %s, %d, %v, not %d, %v", s, tree.Text(got), at, err, line, want)
	}
}

// P601: remarks, wherever they stand; they say nothing.
func TestRemarks(t *testing.T) {
	for _, s := range []string{"", "\n", "\r\n", " ", "\t \t", " \n\t\r\n", ";", "#", ";;", "##", " ; a=b", "\t#[x]", ";[a]\n#k=v", "# =", "; \x00\xff\x0b\x0c\x7fé", strings.Repeat(";", 4000), ";" + x(3999), ";[\n;]\n"} {
		loads(t, s, "{}")
		loads(t, "[a]\n"+s[:min(len(s), 3000)], `{"a": {}}`)
		loads(t, "[a]\nk=v\n"+s[:min(len(s), 3000)], `{"a": {"k": {"v": {}}}}`)
	}
	for _, s := range []string{"-", "//", "!", "\x0b", "\x0c", "\x00", "a;", "a#", "\u00a0", "\ufeff;", "\xff", "'", `"`, "{", "]"} {
		refused(t, s, 1, api.ErrLine)
		refused(t, "[a]\n"+s, 2, api.ErrLine)
	}
}

// P601: headers.
func TestHeaders(t *testing.T) {
	for _, x := range [][2]string{
		{"[a]", `{"a": {}}`}, {"[a]\n", `{"a": {}}`}, {"[a]\r\n", `{"a": {}}`}, {" \t[a]\t ", `{"a": {}}`}, {"[a b\tc]", `{"a b\x09c": {}}`}, {"[;]", `{";": {}}`}, {"[#a=b]", `{"#a=b": {}}`}, {"[=]", `{"=": {}}`}, {"[é\x00\xff\"]", `{"\xc3\xa9\x00\xff\"": {}}`}, {"[\x0b]", `{"\x0b": {}}`}, {"[\u00a0]", `{"\xc2\xa0": {}}`},
		{"[" + x(80) + "]", `{"` + x(80) + `": {}}`}, {"[b]\n[a]\n\n[ab]", `{"a": {}, "ab": {}, "b": {}}`}, {"[a]\n[A]\n[a b]", `{"A": {}, "a": {}, "a b": {}}`}, {"[b]\n[a]\n[\xff]\n[\x01]", `{"\x01": {}, "a": {}, "b": {}, "\xff": {}}`},
	} {
		loads(t, x[0], x[1])
	}
	for _, s := range []string{"[", "[]", "[[", "[[]", "[]]", "[ ]", "[\t]", "[ a]", "[a ]", "[\ta]", "[a\t]", "[a", "[a]b", "[a]]", "[[a]", "[[a]]", "[a] ]", "[a]]b]", "[a[b]", "[a];", "[a] ; r", "[a] #", "[a]=", "[a]=b", "[k=v", "[a\rb]", "[\r]", "[a]\r\r", "[" + x(81) + "]", "[" + x(3000) + "]", "[" + strings.Repeat("é", 41) + "]"} {
		refused(t, s, 1, api.ErrLine)
		refused(t, "\n[z]\r\n"+s+"\n", 3, api.ErrLine)
		refused(t, "[z]\nk=v\n \t"+s+"\t \nk=v\n[z]\n", 3, api.ErrLine)
	}
}

// P601: keys' lines.
func TestKeys(t *testing.T) {
	for _, x := range [][2]string{
		{"k=v", `"k": {"v": {}}`}, {"k=", `"k": {"": {}}`}, {"k = ", `"k": {"": {}}`}, {"\t k\t =\t v \t", `"k": {"v": {}}`}, {"k==", `"k": {"=": {}}`}, {"k = = = ", `"k": {"= =": {}}`}, {"k=a=b", `"k": {"a=b": {}}`}, {"a b\tc=d e\tf", `"a b\x09c": {"d e\x09f": {}}`},
		{"k=;r", `"k": {";r": {}}`}, {"k= # r", `"k": {"# r": {}}`}, {"k=[a]", `"k": {"[a]": {}}`}, {"k;#[]=v", `"k;#[]": {"v": {}}`}, {"]=]", `"]": {"]": {}}`}, {"a[=v", `"a[": {"v": {}}`}, {`"k"='v'`, `"\"k\"": {"'v'": {}}`}, {"\x0b=\x0c", `"\x0b": {"\x0c": {}}`}, {"\x00=\xff", `"\x00": {"\xff": {}}`}, {"\u00a0=\u00a0", `"\xc2\xa0": {"\xc2\xa0": {}}`},
		{x(80) + "=" + x(80), `"` + x(80) + `": {"` + x(80) + `": {}}`}, {"  " + x(80) + "  =  " + x(80) + "  ", `"` + x(80) + `": {"` + x(80) + `": {}}`}, {"b=2\n;c=1\na=3\n\nab=1", `"a": {"3": {}}, "ab": {"1": {}}, "b": {"2": {}}`}, {"k=1\nK=2", `"K": {"2": {}}, "k": {"1": {}}`}, {"k=1\nl=1", `"k": {"1": {}}, "l": {"1": {}}`},
	} {
		loads(t, "[s]\n"+x[0], `{"s": {`+x[1]+`}}`)
		loads(t, "[s]\r\n;\r\n"+strings.ReplaceAll(x[0], "\n", "\r\n")+"\r\n", `{"s": {`+x[1]+`}}`)
		loads(t, "[t]\nk=v\n[s]\n"+x[0]+"\n[r]\n", `{"r": {}, "s": {`+x[1]+`}, "t": {"k": {"v": {}}}}`)
		refused(t, "\n"+x[0], 2, api.ErrLine)
		refused(t, ";[a]\n"+x[0]+"\n[a]\n", 2, api.ErrLine)
	}
	for _, s := range []string{"k", "=", "=v", " =v", "\t= v", "==", "k\rl=v", "k\r=v", "k=\r", "k=a\rb", "k=v\r\r", "\rk=v", x(81) + "=v", "k=" + x(81), x(81) + "=", "k = " + strings.Repeat("é", 41), x(3000), "k=a" + strings.Repeat(" ", 79) + "b", "a" + strings.Repeat("\t", 79) + "b=v"} {
		refused(t, "[s]\n"+s, 2, api.ErrLine)
		refused(t, "[s]\nl=1\r\n;\n"+s+"\r\nk=v\n", 4, api.ErrLine)
	}
}

// P602: a 13 in a line's text is refused wherever it stands; in its end it is none.
func TestThirteen(t *testing.T) {
	for _, s := range []string{"\r", "\r ", " \r", ";\r", ";a\rb", "#\r\r", "\r;", "\r[a]", "[a]\r", "[a] \r", "[a\r]", "[\ra]", "k=v\r", "k\r=v", "\rk=v", "k=\rv"} {
		refused(t, "[z]\n"+s, 2, api.ErrLine)
		refused(t, "[z]\n"+s+"\r\n", 2, api.ErrLine)
	}
	for _, s := range []string{"\r\n", " \r\n", ";\r\n", "[a]\r\n", "k=v\r\n", "k=\r\n"} {
		if _, line, err := ini.Load("[z]\n" + s); line != 0 || err != api.OK {
			t.Errorf("P602: %q: %d, %v", s, line, err)
		}
	}
}

// P602: what is there already.
func TestTwice(t *testing.T) {
	for _, s := range []string{"[a]\n[a]", "[a]\n [a]\t\nk=v", "[a]\r\n[a]\r\n[a]\r\n", "[a]\n[a]\nk", "[a b]\n[a b]"} {
		refused(t, s, 2, api.ErrTwice)
	}
	for _, s := range []string{"[b]\n[a]\n[b]", "[b]\nk=v\n[b]\n", "[a]\nk=1\nk=2\n", "[a]\nk=1\nk=1\n", "[a]\nk=\n \tk\t = \n[a", "[a]\nk=1\nk=2\nk=\r1\n", "[a]\nx y=1\nx y =2\n=\n"} {
		refused(t, s, 3, api.ErrTwice)
	}
	refused(t, "[a]\nk=1\nl=2\n;\nk=1\n", 5, api.ErrTwice)
	refused(t, "[a]\nk=1\n[b]\nk=1\n[c]\nk=1\nl=1\n[a]\n", 8, api.ErrTwice)
	refused(t, "[a]\nk=1\n[b]\nk=1\nk=2\n[a]\n", 5, api.ErrTwice)
	refused(t, "[a]\nk=1\nk="+x(81)+"\n", 3, api.ErrLine)
	refused(t, "[a]\nk=1\nk=\r\n[a]\n", 3, api.ErrTwice)
	refused(t, "[a]\nk=1\nk=\r\r\n[a]\n", 3, api.ErrLine)
	refused(t, "[a]\n[b]\n[a]\r\r\n", 3, api.ErrLine)
	loads(t, "[k]\nk=k\n[a]\nk=k\na=k\n[K]\nk=k", `{"K": {"k": {"k": {}}}, "a": {"a": {"k": {}}, "k": {"k": {}}}, "k": {"k": {"k": {}}}}`)
}

// P602: how many bytes, and how many edges: that is told behind all of the lines' faults.
func TestTooMuch(t *testing.T) {
	loads(t, strings.Repeat("\n", 4000), "{}")
	loads(t, "[a]\n"+strings.Repeat("\r\n", 1998), `{"a": {}}`)
	loads(t, "[a]\nk=v"+strings.Repeat(" ", 3993), `{"a": {"k": {"v": {}}}}`)
	refused(t, strings.Repeat("\n", 4001), 0, api.ErrLong)
	refused(t, "[\n"+strings.Repeat("\n", 3999), 0, api.ErrLong)
	refused(t, "k=v\r[\n"+strings.Repeat("x", 100000), 0, api.ErrLong)
	refused(t, "[\n"+strings.Repeat("\n", 3998), 1, api.ErrLine)
	refused(t, strings.Repeat("\n", 3999)+"x", 4000, api.ErrLine)
	for _, s := range []string{"[a]\n[b]\n" + keys(199), heads(400), "[a]\n" + keys(199), heads(2) + "k=\n" + keys(198)} {
		if got, line, err := ini.Load(s); err != api.OK || line != 0 || tree.Size(got) != strings.Count(s, "[")+2*strings.Count(s, "=") {
			t.Errorf("P602: %.20q: %d edges, %d, %v", s, tree.Size(got), line, err)
		}
	}
	for _, s := range []string{"[a]\n" + keys(200), "[a]\n[b]\n[c]\n" + keys(199), heads(401), heads(402), "[a]\n[b]\n" + keys(250)} {
		refused(t, s, 0, api.ErrMany)
		n := strings.Count(s, "\n")
		refused(t, s+"k\n[", n+1, api.ErrLine)
		refused(t, s+";\n[a\r]\n", n+2, api.ErrLine)
		refused(t, s+"[z]\n[z]\n[", n+2, api.ErrTwice)
		refused(t, s+"k=\nk=\n", n+2, api.ErrTwice)
		refused(t, s+strings.Repeat("\n", 4001-len(s)), 0, api.ErrLong)
	}
}

// keys are n keys' lines, heads n headers.
func keys(n int) string {
	s := ""
	for i := range n {
		s += fmt.Sprintf("%03d=\n", i)
	}
	return s
}

func heads(n int) string {
	s := ""
	for i := range n {
		s += fmt.Sprintf("[%03d]\n", i)
	}
	return s
}

// P601, P602: all short texts of what counts in a line.
func TestLoadAll(t *testing.T) {
	for _, s := range append(over("[]=; \n\ra", 5), over("[]a\n", 8)...) {
		sameLoad(t, s)
		sameLoad(t, "[a]\n"+s)
	}
	for _, s := range over("a=\n\t#", 6) {
		sameLoad(t, "[a]\n"+s)
	}
}

// sameLoad holds Load against the chapter anew.
func sameLoad(t *testing.T, s string) {
	t.Helper()
	got, line, err := ini.Load(s)
	want, at, fault := plainLoad(s)
	if tree.Text(got) != tree.Text(want) || line != at || err != fault {
		t.Fatalf("P601, P602: %q: %s, %d, %v, not %s, %d, %v", s, tree.Text(got), line, err, tree.Text(want), at, fault)
	}
}

// P601, P602: each byte, at each place of a line.
func TestLoadEveryByte(t *testing.T) {
	for n := range 256 {
		c := string([]byte{byte(n)})
		for _, s := range []string{c, c + "=", c + "k=v", "k" + c + "=v", "k" + c + "l=v", "k=" + c, "k=" + c + "v", "k=v" + c, "k=v" + c + "w", "[" + c + "]", "[" + c + "b]", "[b" + c + "]", "[b" + c + "c]", c + "[b]", "[b]" + c, ";" + c, c + ";"} {
			sameLoad(t, s)
			sameLoad(t, "[a]\n"+s)
			sameLoad(t, "[a]\n"+s+"\r\nk=v")
		}
	}
}

// P601, P602: files of many kinds of lines; P1: and what is no file at all.
func TestLoadRandom(t *testing.T) {
	r := rand.New(rand.NewSource(6))
	for range 5000 {
		sameLoad(t, randomFile(r, false))
		s := []byte(randomFile(r, true))
		sameLoad(t, string(s))
		if len(s) > 0 {
			s[r.Intn(len(s))] = "[]=;# \t\r\nab\x00\xff"[r.Intn(13)]
			sameLoad(t, string(s))
		}
		r.Read(s)
		sameLoad(t, string(s))
	}
}
