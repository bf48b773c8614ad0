package csv_test

import (
	"fmt"
	"math/rand"
	"strings"
	"testing"

	"cadence/api"
	"cadence/csv"
	"cadence/tree"
)

// loads asks what a file is as a tree.
func loads(t *testing.T, s, want string) {
	t.Helper()
	got, line, err := csv.Load(s)
	if err != api.OK || line != 0 || tree.Text(got) != want {
		t.Errorf("P701, P702: %.200q: %s, %d, %v, not %s", s, tree.Text(got), line, err, want)
	}
}

// refused asks which line of a file is wrong, and how.
func refused(t *testing.T, s string, line int, want api.Errno) {
	t.Helper()
	if got, at, err := csv.Load(s); err != want || at != line || len(got) != 0 {
		t.Errorf("P701, P702, P4: %.200q: %s, %d, %v, not %d, %v", s, tree.Text(got), at, err, line, want)
	}
}

// The chapter's example.
func TestExample(t *testing.T) {
	for _, s := range []string{"key,a\nx,1", "key,a\nx,1\n", "key,a\r\nx,1\r\n"} {
		loads(t, s, `{"x": {"a": {"1": {}}}}`)
	}
}

// P701: heads.
func TestHeads(t *testing.T) {
	for _, s := range []string{"key", "key\n", "key\r\n", `"key"`, "key,a", `"key","a"` + "\n", "key,b,a", "key,a,A", "key, key", "key,Key,KEY", "key, ", "key,\t,\x00", "key,\xff,\xfe", "key," + x(80), `key,"` + x(80) + `"`, `key,"` + strings.Repeat(`""`, 80) + `"`, `key,",","""","key,"`, `key,"k""ey"`, "key,\u00a0"} {
		loads(t, s, "{}")
	}
	for _, s := range []string{"\n", "\r\n", " ", ",", ",\n", `""`, `"`, `"""`, "Key", "KEY", " key", "key ", "\tkey", "ke", "keys", "key;a", "\ufeffkey", "k\"ey", `"key`, `key"`, `"k"ey`, `"key""`, `""key"`, `"key" `, ` "key"`, `"key"a`, `"""key"""`, "a,key", "x,1", ",key"} {
		refused(t, s, 1, api.ErrLine)
		refused(t, s+"\nkey,a\nx,1\n", 1, api.ErrLine)
	}
	for _, column := range []string{"", `""`, "key", `"key"`, `"`, `a"`, `"a`, `a"b`, `"a"b`, `"a" `, ` "a"`, `"""`, `"a""`, `"a"""b"`, x(81), `"` + x(81) + `"`, `"` + strings.Repeat(`""`, 81) + `"`, strings.Repeat("é", 41), "a\rb", "\"a\rb\"", "\ra"} {
		for _, s := range []string{"key," + column, "key,b," + column, "key," + column + ",b", "key,b,b," + column, "key,b," + column + ",b"} {
			refused(t, s+"\nx,1\n", 1, api.ErrLine)
			refused(t, s+"\r\nx,1,2\n", 1, api.ErrLine)
		}
	}
}

// P701: records: rows' names and values.
func TestRecords(t *testing.T) {
	for _, f := range [][2]string{{"v", "v"}, {" v\t", ` v\x09`}, {" ", " "}, {`"v"`, "v"}, {`" "`, " "}, {`","`, ","}, {`""""`, `\"`}, {`"a""b"`, `a\"b`}, {`""","""`, `\",\"`}, {`"""a"`, `\"a`}, {`"a"""`, `a\"`}, {`""""""`, `\"\"`}, {"'", "'"}, {";", ";"}, {"#", "#"}, {"\x0b\x0c", `\x0b\x0c`}, {"\x00\xff", `\x00\xff`}, {"é", `\xc3\xa9`}, {`\`, `\\`}, {"key", "key"}, {`"key"`, "key"}, {x(80), x(80)}, {`"` + x(80) + `"`, x(80)}, {`"` + strings.Repeat(`""`, 80) + `"`, strings.Repeat(`\"`, 80)}, {`"` + strings.Repeat(",", 80) + `"`, strings.Repeat(",", 80)}} {
		loads(t, "key\n"+f[0], `{"`+f[1]+`": {}}`)
		loads(t, "key,a\r\n"+f[0]+",1\r\n", `{"`+f[1]+`": {"a": {"1": {}}}}`)
		loads(t, "key,b,a\nx,"+f[0]+",2", `{"x": {"a": {"2": {}}, "b": {"`+f[1]+`": {}}}}`)
		loads(t, "key,b,a\nx,,"+f[0]+"\n", `{"x": {"a": {"`+f[1]+`": {}}}}`)
		loads(t, "key,b,a\nx,"+f[0]+","+f[0]+"\n", `{"x": {"a": {"`+f[1]+`": {}}, "b": {"`+f[1]+`": {}}}}`)
	}
	for _, f := range []string{`"`, `"""`, `v"`, `"v`, `a"b`, `a""b`, `a""`, `""a`, `"a"b`, `"a"b"`, `"a" `, ` "a"`, `"a""`, `"a"""b`, `""""a`, x(81), `"` + x(81) + `"`, `"` + strings.Repeat(`""`, 81) + `"`, strings.Repeat("é", 41), "v\rw", "\rv", "\"\r\""} {
		refused(t, "key,a\n"+f+",1\nx,2", 2, api.ErrLine)
		refused(t, "key,a\ny,1\r\nx,"+f+"\n", 3, api.ErrLine)
		refused(t, "key,a,b\nx,"+f+",\n", 2, api.ErrLine)
		refused(t, "key,a,b\nx,1,1\ny,,1\nx,,"+f+"\nx", 4, api.ErrLine)
	}
	for _, name := range []string{"", `""`} {
		refused(t, "key,a\n"+name+",1\n", 2, api.ErrLine)
		refused(t, "key\nx\n"+name+"\nx\n", 3, api.ErrLine)
		loads(t, "key,a,b\nx,"+name+",1\ny,"+name+","+name, `{"x": {"b": {"1": {}}}, "y": {}}`)
	}
	loads(t, "key,b,a\nz,1,2\nX,,\nkey,3,\nx,,4", `{"X": {}, "key": {"b": {"3": {}}}, "x": {"a": {"4": {}}}, "z": {"a": {"2": {}}, "b": {"1": {}}}}`)
	loads(t, "key,x\nx,x", `{"x": {"x": {"x": {}}}}`)
}

// P701: a record has as many fields as the head.
func TestHowManyFields(t *testing.T) {
	for n := range 5 {
		head := "key" + strings.Join([]string{"", "a", `"b,c"`, `""""`, "d"}[:n+1], ",")
		for m := range 7 {
			s := head + "\ny" + strings.Repeat(",", n) + "\nx" + strings.Repeat(`,""`, m)
			if m == n {
				loads(t, s, `{"x": {}, "y": {}}`)
			} else {
				refused(t, s, 3, api.ErrLine)
				refused(t, s+"\nx", 3, api.ErrLine)
			}
		}
		refused(t, head+"\nx"+strings.Repeat(",", n)+"\n\n", 3, api.ErrLine)
	}
	loads(t, "key\n \n\t\n", `{"\x09": {}, " ": {}}`)
	refused(t, "key,a\n \n", 2, api.ErrLine)
	refused(t, "key,a\nx,\"1\n2\"\n", 2, api.ErrLine)
	refused(t, "key,\"a\nb\"\n", 1, api.ErrLine)
}

// P702: a 13 in a line's text is refused wherever it stands; in its end it is none.
func TestThirteen(t *testing.T) {
	for _, s := range []string{"\r", "x,1\r", "x\r,1", "\rx,1", "x,\r1", "x,\r", "x,\"\r\"", "x,\"1\"\r", "x,1\r\r", "x,1\ry"} {
		refused(t, "key,a\n"+s, 2, api.ErrLine)
		refused(t, "key,a\r\nx,1\r\n"+s+"\r\n", 3, api.ErrLine)
	}
	refused(t, "key\r", 1, api.ErrLine)
	refused(t, "key\r\r\n", 1, api.ErrLine)
	refused(t, "key,a,a\r\r\n", 1, api.ErrLine)
	loads(t, "key,a\nx,1\r\ny,2\nz,3\r\n", `{"x": {"a": {"1": {}}}, "y": {"a": {"2": {}}}, "z": {"a": {"3": {}}}}`)
}

// P702: what is there already; P6: what is wrong with a line comes ahead of that.
func TestTwice(t *testing.T) {
	for _, s := range []string{"key,a,a", "key,a,\"a\"\n", "key,a,b,a\nx", "key,b,\"a,\",c,\"a,\"\n\n", "key,\"\"\"\",\"\"\"\"", "key, , \r\n"} {
		refused(t, s, 1, api.ErrTwice)
	}
	for _, s := range []string{"key\nx\nx", "key\nx\n\"x\"\n\n", "key,a\nx,1\nx,2\n", "key,a\r\nx,1\r\nx,1\r\nx\r\n", "key\nkey\nkey", "key\n\"a,\"\"\"\n\"a,\"\"\"\n", "key,a\n , \n , \n"} {
		refused(t, s, 3, api.ErrTwice)
	}
	refused(t, "key,a\nx,1\ny,1\nz,1\ny,\n", 5, api.ErrTwice)
	refused(t, "key,a\nx,1\nx,2\nx\n", 3, api.ErrTwice)
	refused(t, "key,a,a\nx\n", 1, api.ErrTwice)
	refused(t, "key,a\nx\nx,1\nx,1\n", 2, api.ErrLine)
	refused(t, "key,a\nx,1\nx\n", 3, api.ErrLine)
	refused(t, "key,a\nx,1\nx,"+x(81)+"\n", 3, api.ErrLine)
	refused(t, "key,a\nx,1\nx,1\r\r\n", 3, api.ErrLine)
	refused(t, "key,a,a,key\n", 1, api.ErrLine)
	refused(t, "key,a,a,\n", 1, api.ErrLine)
	refused(t, "a,a,a\n", 1, api.ErrLine)
	loads(t, "key,x,X,\" x\"\nx,,,\nX,,,\n x,,,\nkey,,,\n", `{" x": {}, "X": {}, "key": {}, "x": {}}`)
}

// rows are n records of a row alone, full n of a row and a value.
func rows(n int) string {
	s := ""
	for i := range n {
		s += fmt.Sprintf("%03d,\n", i)
	}
	return s
}

func full(n int) string { return strings.ReplaceAll(rows(n), ",", "v,1") }

// P702: how many bytes, and how many edges: that is told behind all of the lines' faults.
func TestTooMuch(t *testing.T) {
	refused(t, "", 0, api.ErrNone)
	refused(t, strings.Repeat("\n", 4000), 1, api.ErrLine)
	refused(t, strings.Repeat("\n", 4001), 0, api.ErrLong)
	refused(t, "key"+strings.Repeat(" ", 3997), 1, api.ErrLine)
	refused(t, "key"+strings.Repeat(" ", 3998), 0, api.ErrLong)
	s := "key\n"
	for i := range 49 {
		s += fmt.Sprintf("%02d%s\n", i, x(77))
	}
	if got, line, err := csv.Load(s + x(76)); len(s) != 3924 || err != api.OK || line != 0 || len(got) != 50 {
		t.Errorf("P702: 4000 bytes: %d rows, %d, %v", len(got), line, err)
	}
	refused(t, s+x(77), 0, api.ErrLong)
	refused(t, "\n"+s+x(76), 0, api.ErrLong)
	s = "key"
	for i := range 799 {
		s += fmt.Sprintf(",%04d", i)
	}
	loads(t, s, "{}")
	refused(t, s+"\n,", 2, api.ErrLine)
	for _, s := range []string{"key,a\n" + rows(400), "key,a\n" + full(133), "key,a\n" + full(133) + "x,\n", "key,a\n" + full(100) + rows(100)} {
		if got, line, err := csv.Load(s); err != api.OK || line != 0 || tree.Size(got) != strings.Count(s, "\n")-1+2*strings.Count(s, "v") {
			t.Errorf("P702: %.20q: %d edges, %d, %v", s, tree.Size(got), line, err)
		}
	}
	for _, s := range []string{"key,a\n" + rows(401), "key,a\n" + full(134), "key,a\n" + full(133) + "x,\ny,\n", "key,a\n" + full(100) + rows(101)} {
		refused(t, s, 0, api.ErrMany)
		n := strings.Count(s, "\n")
		refused(t, s+"x", n+1, api.ErrLine)
		refused(t, s+"z,\nx,\"\n", n+2, api.ErrLine)
		refused(t, s+"z,1\nz,1\n\n", n+2, api.ErrTwice)
		refused(t, s+strings.Repeat("\n", 4001-len(s)), 0, api.ErrLong)
	}
}

// sameLoad holds Load against the chapter anew.
func sameLoad(t *testing.T, s string) {
	t.Helper()
	got, line, err := csv.Load(s)
	want, at, fault := plainLoad(s)
	if tree.Text(got) != tree.Text(want) || line != at || err != fault {
		t.Fatalf("P701, P702: %q: %s, %d, %v, not %s, %d, %v", s, tree.Text(got), line, err, tree.Text(want), at, fault)
	}
}

// P701, P702: all short texts of what counts in a line.
func TestLoadAll(t *testing.T) {
	for _, s := range over("\",\r\nx", 6) {
		for _, head := range []string{"", "key", "\"key\",", "key,a\n", "key\nx\n", "key,a,b\r\nx,"} {
			sameLoad(t, head+s)
		}
	}
	for _, s := range over("\",", 11) {
		sameLoad(t, "key,"+s)
		sameLoad(t, "key,a,b\nx,"+s)
	}
}

// P701, P702: each byte, at each place of a line.
func TestLoadEveryByte(t *testing.T) {
	for n := range 256 {
		b := string([]byte{byte(n)})
		for _, s := range []string{b, b + "v", "v" + b, "v" + b + "w", `"` + b + `"`, `"v` + b + `"`, `"` + b + `v"`, `"` + b, b + `"`, b + `""`, `"v"` + b, b + `"v"`, b + b} {
			sameLoad(t, s+"key,a\n")
			sameLoad(t, "key"+s)
			sameLoad(t, "key,a,"+s)
			sameLoad(t, "key\n"+s)
			sameLoad(t, "key,a\r\n"+s+",1\r\n")
			sameLoad(t, "key,a\nx,"+s)
			sameLoad(t, "key,a,b\nx,"+s+",1\n")
		}
	}
}

// P701, P702: files of many kinds of lines; P1: and what is no file at all.
func TestLoadRandom(t *testing.T) {
	r := rand.New(rand.NewSource(7))
	for range 5000 {
		s := randomFile(r)
		if _, line, err := csv.Load(s); line != 0 || err != api.OK {
			t.Fatalf("P702: %q: %d, %v", s, line, err)
		}
		for range 3 {
			sameLoad(t, s)
			s = spoilt(r, s+"\n")
		}
		b := []byte(s)
		r.Read(b)
		sameLoad(t, string(b))
	}
}
