package card_test

import (
	"fmt"
	"math/rand"
	"strings"
	"testing"

	"cadence/api"
	"cadence/card"
	"cadence/tree"
)

// loads asks what a file is as a tree.
func loads(t *testing.T, s string, want api.Tree) {
	t.Helper()
	got, line, err := card.Load(s)
	if err != api.OK || line != 0 || tree.Text(got) != tree.Text(want) {
		t.Errorf("P801, P802: %.200q: %s, %d, %v, not %s", s, tree.Text(got), line, err, tree.Text(want))
	}
}

// refused asks which line of a file is wrong, and how.
func refused(t *testing.T, s string, line int, want api.Errno) {
	t.Helper()
	if got, at, err := card.Load(s); err != want || at != line || len(got) != 0 {
		t.Errorf("P801, P802, P4: %.200q: %s, %d, %v, not %d, %v", s, tree.Text(got), at, err, line, want)
	}
}

// The chapter's example.
func TestExample(t *testing.T) {
	for _, s := range []string{"BEGIN:CARD\nID:x\nEND:CARD", "BEGIN:CARD\nID:x\nEND:CARD\n", "BEGIN:CARD\r\nID:x\r\nEND:CARD\r\n"} {
		got, line, err := card.Load(s)
		if want := `{"CARD": {"x": {"blocks": {}, "props": {}}}}`; tree.Text(got) != want || line != 0 || err != api.OK {
			t.Errorf("P801: %q: %s, %d, %v", s, tree.Text(got), line, err)
		}
	}
}

// P801: lines of blanks do not count, wherever they stand.
func TestBlanks(t *testing.T) {
	for _, s := range []string{"", " ", "\t", " \t ", "\r\n", " \n\t\r\n"} {
		loads(t, s, nil)
		loads(t, s+"\n"+s, nil)
		loads(t, strings.Join([]string{"", "BEGIN:A", "N:1", "ID:x", "END:A", s}, "\n"+s+"\n"), c(p("N", "1")))
	}
	for _, s := range []string{"\x0b", "\x0c", "\x00", "\u00a0", "\u0085", "\ufeff", "\r ", " \r\t", "x", ";", "#", ":", "::", " :", "-", "'", "\xff"} {
		refused(t, s, 1, api.ErrLine)
		refused(t, "\nBEGIN:A\n"+s+"\nID:x\nEND:A\n", 3, api.ErrLine)
		refused(t, "BEGIN:A\nID:x\nEND:A\n"+s, 4, api.ErrLine)
	}
}

// P801: words, of blocks and of properties.
func TestWords(t *testing.T) {
	for _, word := range []string{"A", "Z", "M", "0", "9", "-", "--", "A-1", "-A", "1A", "ID", "IDX", "BEGINS", "ENDS", "B", "CARD", strings.Repeat("A", 20), strings.Repeat("-", 20), "ABCDEFGHIJKLMNOPQRST", "UVWXYZ-0123456789"} {
		loads(t, "BEGIN:"+word+"\nID:x\nEND:"+word+"\n", api.Tree{e(word, b("x", nil, nil))})
		if word != "ID" {
			loads(t, "BEGIN:A\nID:x\n"+word+":1\nEND:A\n", c(p(word, "1")))
		}
		refused(t, "BEGIN:A\nID:x\nEND:"+word+"Q\n", 3, api.ErrLine)
		refused(t, "BEGIN:Q\nID:x\nEND:"+word+"\n", 3, api.ErrLine)
	}
	for _, word := range []string{"BEGIN", "END"} {
		loads(t, "BEGIN:"+word+"\nID:x\nEND:"+word+"\n", api.Tree{e(word, b("x", nil, nil))})
	}
	for _, word := range []string{"", " ", "a", "z", "A ", " A", "A B", "\tA", "A\t", "a-", "Aa", "A_", "A.", "A/", "A,", "A\x00", "@", "[", "`", "É", "\u0410", "A\xff", "\xc1", "A:", ":A", "A:B", "A;B", strings.Repeat("A", 21), strings.Repeat("0", 81)} {
		refused(t, "BEGIN:"+word+"\nID:x\nEND:"+word+"\n", 1, api.ErrLine)
		refused(t, "BEGIN:A\nID:x\nEND:"+word+"\n", 3, api.ErrLine)
		if !strings.Contains(word, ":") {
			refused(t, "BEGIN:A\nID:x\n"+word+":1\nEND:A\n", 3, api.ErrLine)
		}
	}
	for _, s := range []string{"BEGIN", "END", "BEGIN:", "END:", "BEGIN A", "begin:A", "Begin:A", "end:A", " BEGIN:A", "BEGIN :A", "BEGIN: A", "BEGIN:A ", "\tEND:A", "END:A\t", "BEGIN:A:", "END::A", "BEGIN:A\\n", "BEGIN:\\\\", "N", "N1", "ID", "id:y", "Id:y", " ID:y", "ID :y", " N:1", "N :1", "n:1", "N=1", "N;X:1", ":1", ":", "N\\:1"} {
		refused(t, s+"\n", 1, api.ErrLine)
		refused(t, "BEGIN:A\nID:x\n"+s+"\nEND:A\n", 3, api.ErrLine)
	}
}

// P801: values: what a backslash makes, and how much one may mean.
func TestValues(t *testing.T) {
	for _, v := range [][2]string{
		{"", ""}, {"v", "v"}, {" v\t", " v\t"}, {" ", " "}, {"\t", "\t"}, {":", ":"}, {"a:b", "a:b"}, {`\\`, `\`}, {`\n`, "\n"}, {`\r`, "\r"}, {`\r\n`, "\r\n"}, {`\\n`, `\n`}, {`\\\n`, "\\\n"}, {`\\\\`, `\\`}, {`a\nb\rc\\d`, "a\nb\rc\\d"}, {`n\nr\r`, "n\nr\r"}, {`\n\n`, "\n\n"}, {`\\r\\`, `\r\`}, {"BEGIN:A", "BEGIN:A"}, {"END:A", "END:A"}, {"\x00\x0b\x0c\xff", "\x00\x0b\x0c\xff"}, {"é\u00a0", "é\u00a0"}, {`"'`, `"'`}, {"/n", "/n"},
		{x(80), x(80)}, {strings.Repeat(`\n`, 80), strings.Repeat("\n", 80)}, {strings.Repeat(`\\`, 80), strings.Repeat(`\`, 80)}, {x(79) + `\r`, x(79) + "\r"}, {`\r` + x(79), "\r" + x(79)}, {strings.Repeat("é", 40), strings.Repeat("é", 40)},
	} {
		loads(t, "BEGIN:A\nID:x\nN:"+v[0]+"\nEND:A\n", c(p("N", v[1])))
		loads(t, "BEGIN:A\r\nN:"+v[0]+"\r\nID:x\r\nEND:A", c(p("N", v[1])))
		loads(t, "BEGIN:B\nID:y\nBEGIN:A\nID:x\n-1:"+v[0]+"\nEND:A\nEND:B\n", api.Tree{e("B", b("y", c(p("-1", v[1])), nil))})
		if s := "BEGIN:A\nID:" + v[0] + "\nEND:A"; isPlain(v[1]) {
			loads(t, s, api.Tree{e("A", b(v[1], nil, nil))})
		} else {
			refused(t, s, 2, api.ErrLine)
		}
	}
	for _, v := range []string{`\`, `\\\`, `a\`, `\a`, `\N`, `\R`, `\t`, `\0`, `\ `, `\"`, `\:`, "\\\t", `\é`, "\\\x00", `\n\`, `\n\q`, `\\\q`, `q\qq`, `\/`, "\r ", "a\rb", "\r\\n", `\n` + "\rn", "\\\rn", x(81), x(80) + `\n`, `\\` + x(80), strings.Repeat(`\n`, 81), strings.Repeat(`\\`, 81), strings.Repeat("é", 41), x(1500)} {
		for _, word := range []string{"N", "ID", "-"} {
			refused(t, "BEGIN:A\n"+word+":"+v+"\nID:x\nEND:A\n", 2, api.ErrLine)
			refused(t, "BEGIN:A\nID:x\n\n"+word+":"+v+"\nEND:A", 4, api.ErrLine)
		}
		refused(t, "BEGIN:A\nID:x\nN:"+v+"\r\nN:"+v, 3, api.ErrLine)
	}
}

// P801, P802: ids are plain names, and may stand anywhere among a block's own lines.
func TestIDs(t *testing.T) {
	for _, id := range []string{"x", " ", "\t x ", ":", "END:A", "ID", "\x00\xff", "é", "\x0b", x(80), strings.Repeat("é", 40)} {
		loads(t, "BEGIN:A\nID:"+id+"\nEND:A\n", api.Tree{e("A", b(id, nil, nil))})
		loads(t, "BEGIN:A\nN:1\nBEGIN:B\nID:"+id+"\nEND:B\n\nID:"+id+"\nEND:A", api.Tree{e("A", b(id, api.Tree{e("B", b(id, nil, nil))}, api.Tree{p("N", "1")}))})
	}
	for _, id := range []string{"", `\n`, `\r`, `a\n`, `\rb`, `a\r\nb`, `\`, x(81), `\\` + x(80), strings.Repeat("é", 41)} {
		refused(t, "BEGIN:A\nID:"+id+"\nEND:A\n", 2, api.ErrLine)
		refused(t, "BEGIN:A\nID:x\nID:"+id+"\nEND:A\n", 3, api.ErrLine)
		refused(t, "BEGIN:A\nBEGIN:A\nID:x\nEND:A\nID:"+id+"\nEND:A\n", 5, api.ErrLine)
		refused(t, "ID:"+id+"\n", 1, api.ErrLine)
	}
	loads(t, "BEGIN:A\nID:\\\\"+x(79)+"\nEND:A", api.Tree{e("A", b(`\`+x(79), nil, nil))})
	refused(t, "BEGIN:A\nN:1\nEND:A\n", 3, api.ErrLine)
	refused(t, "BEGIN:A\nBEGIN:B\nID:x\nEND:B\nEND:A\nID:x\n", 5, api.ErrLine)
	refused(t, "BEGIN:A\nID:x\nBEGIN:B\nEND:B\nEND:A\n", 4, api.ErrLine)
	refused(t, "BEGIN:A\nID:x\nEND:A\nBEGIN:A\nEND:A\n", 5, api.ErrLine)
}

// P801, P802: what stands outside of all blocks, and which END closes which.
func TestOutside(t *testing.T) {
	for _, s := range []string{"N:1", "ID:x", "-:", "END:A", "BEGINS:A", "N:\\n"} {
		refused(t, s, 1, api.ErrLine)
		refused(t, "\n \r\n"+s+"\nBEGIN:A\nID:x\nEND:A\n", 3, api.ErrLine)
		refused(t, "BEGIN:A\nID:x\nEND:A\n"+s+"\nBEGIN:A\nID:y\nEND:A\n", 4, api.ErrLine)
		refused(t, "BEGIN:A\nID:x\nBEGIN:B\nID:x\nEND:B\nEND:A\n\n"+s, 8, api.ErrLine)
	}
	for _, s := range []string{"END:B", "END:A-", "END:AA", "END:-", "END:0", "END:END", "END:BEGIN", "END:ID"} {
		refused(t, "BEGIN:A\nID:x\n"+s+"\nEND:A\n", 3, api.ErrLine)
		refused(t, "BEGIN:B\nID:x\nBEGIN:A\nID:x\n"+s+"\nEND:A\nEND:B\n", 5, api.ErrLine)
		refused(t, "BEGIN:A\nBEGIN:A\nID:x\nEND:A\nID:x\n"+s+"\nEND:A\n", 6, api.ErrLine)
	}
}

// P801, P802: blocks in blocks, three deep at most.
func TestDeep(t *testing.T) {
	three := e("A", b("x", api.Tree{e("B", b("y", api.Tree{e("A", b("x", nil, api.Tree{p("N", "1")}))}, nil))}, nil))
	loads(t, "BEGIN:A\nID:x\nBEGIN:B\nID:y\nBEGIN:A\nID:x\nN:1\nEND:A\nEND:B\nEND:A", api.Tree{three})
	loads(t, "BEGIN:A\nBEGIN:B\nBEGIN:A\nN:1\nID:x\nEND:A\n\nID:y\nEND:B\nID:x\n\nEND:A", api.Tree{three})
	loads(t, "BEGIN:A\nID:x\nBEGIN:B\nID:y\nEND:B\nN:2\nBEGIN:B\nID:x\nN:1\nEND:B\nBEGIN:A\nID:y\nEND:A\nN:1\nEND:A\nBEGIN:C\nID:x\nEND:C\nBEGIN:A\nID:w\nEND:A\n", api.Tree{
		e("A", b("w", nil, nil), b("x", api.Tree{e("A", b("y", nil, nil)), e("B", b("x", nil, api.Tree{p("N", "1")}), b("y", nil, nil))}, api.Tree{p("N", "1", "2")})), e("C", b("x", nil, nil)),
	})
	loads(t, "BEGIN:A\nID:x\nA:x\nBEGIN:A\nID:A\nA:x\nEND:A\nEND:A\n", api.Tree{e("A", b("x", api.Tree{e("A", b("A", nil, api.Tree{p("A", "x")}))}, api.Tree{p("A", "x")}))})
	refused(t, "BEGIN:A\nBEGIN:B\nBEGIN:C\nBEGIN:D\nID:x\nEND:D\n", 4, api.ErrDeep)
	refused(t, strings.Repeat("BEGIN:A\n", 400), 4, api.ErrDeep)
	refused(t, "BEGIN:A\nID:x\nBEGIN:A\nID:x\n\nBEGIN:A\nID:x\nN:1\nBEGIN:A\n", 9, api.ErrDeep)
	refused(t, "BEGIN:A\nID:x\nBEGIN:A\nID:x\nBEGIN:A\nID:x\nEND:A\nBEGIN:A\nID:y\nEND:A\nEND:A\nBEGIN:B\nBEGIN:C\nBEGIN:D\n", 14, api.ErrDeep)
	refused(t, "BEGIN:A\nBEGIN:B\nBEGIN:C\nBEGIN:d\nBEGIN:D\n", 4, api.ErrLine)
	refused(t, "BEGIN:A\nBEGIN:B\nBEGIN:C\nBEGIN:D\r\r\n", 4, api.ErrLine)
	refused(t, "BEGIN:A\nBEGIN:B\nBEGIN:C\nN\nBEGIN:D\n", 4, api.ErrLine)
}

// P802: what is there already; P6: what is wrong with a line comes ahead of that.
func TestTwice(t *testing.T) {
	for _, l := range [][2]string{{"ID:x", "ID:x"}, {"ID:x", "ID:y"}, {"N:1", "N:1"}, {"N:", "N:"}, {`N:\n`, `N:\n`}, {`-:\\n`, `-:\\n`}, {"BEGINS:", "BEGINS:"}} {
		refused(t, "BEGIN:A\n"+l[0]+"\n"+l[1]+"\nN\n", 3, api.ErrTwice)
		refused(t, "BEGIN:A\n"+l[0]+"\nM:1\n\nBEGIN:B\nID:x\nN:1\nN:\nN:\\n\nEND:B\nM:2\n"+l[1]+"\n", 12, api.ErrTwice)
		refused(t, "BEGIN:A\nBEGIN:A\n"+l[0]+"\r\n"+l[1], 4, api.ErrTwice)
		refused(t, "BEGIN:A\n"+l[0]+"\n"+l[1]+"\r\r\n", 3, api.ErrLine)
	}
	loads(t, "BEGIN:A\nN:1\nN:2\nM:1\nN:\nN: 1\nN:\\n\nN:\\\\n\nID:x\nBEGIN:A\nN:1\nID:x\nEND:A\nEND:A\n", api.Tree{e("A", b("x", api.Tree{e("A", b("x", nil, api.Tree{p("N", "1")}))}, api.Tree{p("M", "1"), p("N", "", "\n", " 1", "1", "2", `\n`)}))})
	one := "BEGIN:A\nID:x\nEND:A\n"
	refused(t, one+one, 6, api.ErrTwice)
	refused(t, one+"BEGIN:A\nID:y\nEND:A\nBEGIN:A\nN:1\nID:x\nBEGIN:B\nID:y\nEND:B\nEND:A\nN\n", 13, api.ErrTwice)
	refused(t, "BEGIN:B\n"+one+"ID:y\n"+one+"END:B\n", 8, api.ErrTwice)
	refused(t, "BEGIN:B\nID:x\nBEGIN:C\nID:x\n"+one+one+"END:C\nEND:B\n", 10, api.ErrTwice)
	refused(t, one+"BEGIN:A\nID:x\nN\nEND:A\n", 6, api.ErrLine)
	refused(t, one+"BEGIN:A\nID:x\nEND:B\n", 6, api.ErrLine)
	refused(t, one+"BEGIN:A\nID:x\n", 5, api.ErrLine)
	refused(t, one+"BEGIN:A\nID:x\nEND:A\r\r\n", 6, api.ErrLine)
	loads(t, one+"BEGIN:A\nID:X\nEND:A\nBEGIN:B\nID:x\n"+one+"BEGIN:A\nID: x\nEND:A\nEND:B\nBEGIN:C\nID:x\n"+one+"END:C\n", api.Tree{
		e("A", b("X", nil, nil), b("x", nil, nil)), e("B", b("x", api.Tree{e("A", b(" x", nil, nil), b("x", nil, nil))}, nil)), e("C", b("x", c(), nil)),
	})
}

// P802: a block that is open at the end; the line is the last one.
func TestOpen(t *testing.T) {
	for i, s := range []string{"BEGIN:A", "BEGIN:A\nID:x", "BEGIN:A\nID:x\n", "BEGIN:A\nID:x\nBEGIN:B\nID:x\nEND:B", "BEGIN:A\nID:x\nEND:A\nBEGIN:A\n\n\n ", "BEGIN:A\r\nBEGIN:A\nBEGIN:A\n"} {
		refused(t, s, []int{1, 2, 2, 5, 7, 3}[i], api.ErrLine)
	}
	refused(t, "BEGIN:A\n"+strings.Repeat("\n", 3992), 3993, api.ErrLine)
	refused(t, "BEGIN:A\nID:x\nID:y\n", 3, api.ErrTwice)
}

// P802: a 13 in a line's text is refused wherever it stands; in its end it is none.
func TestThirteen(t *testing.T) {
	for _, s := range []string{"\r", " \r", "N:\r", "N\r:1", "\rN:1", "N:1\r", "N:1\r\r", "N:a\rb", "N:\\\r", "ID:\r", "ID:x\ry", "BEGIN:B\r", "BEGIN\r:B", "BEGIN:\rB", "\rBEGIN:B", "END:A\r", "END:\rA"} {
		refused(t, "BEGIN:A\n"+s, 2, api.ErrLine)
		refused(t, "BEGIN:A\r\nID:x\r\n"+s+"\r\nEND:A\r\n", 3, api.ErrLine)
	}
	loads(t, "\r\nBEGIN:A\r\nID:x\nN:1\r\n\t\r\nEND:A\r\n\r\n", c(p("N", "1")))
}

// props are n lines of a property, each with a value of its own; heap is a block of them.
func props(n int) string {
	s := ""
	for i := range n {
		s += fmt.Sprintf("N:%03d\n", i)
	}
	return s
}

func heap(n int) string { return "BEGIN:A\nID:x\n" + props(n) + "END:A\n" }

// P802: how many bytes, and how many edges: that is told behind all of the lines' faults.
func TestTooMuch(t *testing.T) {
	loads(t, strings.Repeat("\n", 4000), nil)
	loads(t, strings.Repeat(" ", 4000), nil)
	refused(t, strings.Repeat("\n", 4001), 0, api.ErrLong)
	refused(t, strings.Repeat(" ", 4001), 0, api.ErrLong)
	refused(t, strings.Repeat("x", 4000), 1, api.ErrLine)
	refused(t, strings.Repeat("x", 4001), 0, api.ErrLong)
	s := "BEGIN:A\nID:x\nEND:A\n"
	loads(t, s+strings.Repeat("\n", 4000-len(s)), c())
	refused(t, s+strings.Repeat("\n", 4001-len(s)), 0, api.ErrLong)
	refused(t, "N"+strings.Repeat("\n", 4000), 0, api.ErrLong)
	for n := 394; n < 400; n++ {
		s := heap(n)
		if n+5 > 400 {
			refused(t, s, 0, api.ErrMany)
		} else if got, line, err := card.Load(s); err != api.OK || line != 0 || tree.Size(got) != n+5 {
			t.Errorf("P802: %d edges, %d, %v", tree.Size(got), line, err)
		}
	}
	s = heap(395)
	refused(t, s+"BEGIN:B\nID:x\nEND:B\n", 0, api.ErrMany)
	s = heap(500)
	refused(t, s, 0, api.ErrMany)
	refused(t, s+"N:1\n", 504, api.ErrLine)
	refused(t, s+"BEGIN:B\n", 504, api.ErrLine)
	refused(t, s+"BEGIN:A\nID:x\nEND:A\nN", 506, api.ErrTwice)
	refused(t, strings.Repeat("BEGIN:A\n", 3)+s, 4, api.ErrDeep)
	refused(t, s+strings.Repeat("\n", 4001-len(s)), 0, api.ErrLong)
}

// sameLoad holds Load against the chapter anew.
func sameLoad(t *testing.T, s string) {
	t.Helper()
	got, line, err := card.Load(s)
	want, at, fault := plainLoad(s)
	if tree.Text(got) != tree.Text(want) || line != at || err != fault {
		t.Fatalf("P801, P802: %q: %s, %d, %v, not %s, %d, %v", s, tree.Text(got), line, err, tree.Text(want), at, fault)
	}
}

// P801, P802: all short files of lines that count.
func TestLoadAllLines(t *testing.T) {
	for _, s := range over([]string{"BEGIN:A\n", "END:A\n", "ID:x\n", "N:1\n", "ID:y\r\n", "BEGIN:B\n", "END:B\n"}, 6) {
		sameLoad(t, s)
	}
	for _, s := range over([]string{"BEGIN:A\n", "END:A\n", "ID:x\n"}, 10) {
		sameLoad(t, s)
	}
	block := []string{"BEGIN:A\nID:x\n", "BEGIN:A\nID:y\n", "END:A\n", "N:1\n", "N\n"}
	for _, s := range over(block, 6) {
		sameLoad(t, "BEGIN:A\n\nID:x\n"+s+"END:A\n"+s)
	}
}

// P801, P802: all short texts of what counts in a line.
func TestLoadAllBytes(t *testing.T) {
	for _, s := range over(bytesOf("\\nr\r\n:A"), 5) {
		sameLoad(t, s)
		sameLoad(t, "BEGIN:A\n"+s+"\nID:x\nEND:A")
		sameLoad(t, "BEGIN:A\nID:x\nN:"+s+"\nEND:A\n")
		sameLoad(t, "BEGIN:A\nID:"+s+"\nEND:A\n")
		sameLoad(t, "BEGIN:A"+s+"\nID:x\nEND:A"+s)
	}
	for _, s := range over([]string{"BEGIN", "END", "ID", ":", "A", "-"}, 5) {
		sameLoad(t, s)
		sameLoad(t, "BEGIN:A\nID:x\n"+s)
		sameLoad(t, "BEGIN:A\n"+s+"\nID:x\nEND:A\n")
	}
}

// P801, P802: each byte, at each place of a line.
func TestLoadEveryByte(t *testing.T) {
	for n := range 256 {
		one := string([]byte{byte(n)})
		for _, s := range []string{one, one + "A", "A" + one, "A" + one + "A", one + one, "\\" + one, one + "\\", "\\\\" + one, one + ":", ":" + one, "N:" + one} {
			sameLoad(t, s)
			sameLoad(t, "BEGIN:"+s+"\nID:x\nEND:"+s+"\n")
			sameLoad(t, s+"BEGIN:A\nID:x\nEND:A\n"+s)
			sameLoad(t, "BEGIN:A\nID:"+s+"\nEND:A\n")
			sameLoad(t, "BEGIN:A\nID:x\nN:"+s+"\nEND:A\n")
			sameLoad(t, "BEGIN:A\nID:x\n"+s+":1\nEND:A\n")
			sameLoad(t, "BEGIN:A\nID:x\n"+s+"\nEND:A\n")
			sameLoad(t, "BEGIN:A\nID:x\nEND:A"+s)
		}
	}
}

// P801, P802: files of many kinds of lines; P1: and what is no file at all.
func TestLoadRandom(t *testing.T) {
	r := rand.New(rand.NewSource(8))
	for range 5000 {
		s := randomFile(r)
		if _, line, err := card.Load(s); line != 0 || err != api.OK {
			t.Fatalf("P802: %q: %d, %v", s, line, err)
		}
		for range 3 {
			sameLoad(t, s)
			s = spoilt(r, s)
		}
		bytes := []byte(s)
		r.Read(bytes)
		sameLoad(t, string(bytes))
	}
}
