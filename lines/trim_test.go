package lines_test

import (
	"strings"
	"testing"

	"cadence/lines"
)

// P501: Trim.
func TestTrim(t *testing.T) {
	for _, x := range []struct{ s, front, mid, back string }{
		{"", "", "", ""}, {"a", "", "a", ""}, {" a", " ", "a", ""}, {"a\t", "", "a", "\t"}, {"\t a b \t", "\t ", "a b", " \t"}, {"a \t b", "", "a \t b", ""},
		{" ", " ", "", ""}, {"\t", "\t", "", ""}, {" \t\t ", " \t\t ", "", ""}, {strings.Repeat(" \t", 50000), strings.Repeat(" \t", 50000), "", ""},
		{"\n", "", "\n", ""}, {" \r ", " ", "\r", " "}, {" a\n", " ", "a\n", ""}, {"\r\t", "", "\r", "\t"}, {"\n \n", "", "\n \n", ""}, {"\x0b a \x0c", "", "\x0b a \x0c", ""}, {" \x00 ", " ", "\x00", " "}, {"\u00a0 a\u00a0", "", "\u00a0 a\u00a0", ""}, {" \u0085\u2028 ", " ", "\u0085\u2028", " "}, {"\t\xff\xc2\t", "\t", "\xff\xc2", "\t"}, {" \xa0 ", " ", "\xa0", " "},
		{strings.Repeat(" ", 300) + "x  y" + strings.Repeat("\t", 400), strings.Repeat(" ", 300), "x  y", strings.Repeat("\t", 400)},
	} {
		if front, mid, back := lines.Trim(x.s); front != x.front || mid != x.mid || back != x.back {
			t.Errorf("P501: Trim(%.60q): %.60q, %.60q, %.60q", x.s, front, mid, back)
		}
	}
}

func blank(c byte) bool { return c == 32 || c == 9 }

// plainTrim is P501's Trim, anew.
func plainTrim(s string) (front, mid, back string) {
	from, to := 0, len(s)
	for from < to && blank(s[from]) {
		from++
	}
	for to > from && blank(s[to-1]) {
		to--
	}
	return s[:from], s[from:to], s[to:]
}

// P501: each byte, at the front, between, and at the end; a blank is one of two.
func TestTrimEveryByte(t *testing.T) {
	for n := range 256 {
		c := string([]byte{byte(n)})
		for _, s := range []string{c, c + c, c + "a", "a" + c, c + "a" + c, " " + c, c + " ", " " + c + " ", "\t" + c + "\t" + c, "a" + c + "b", c + "\xff"} {
			front, mid, back := lines.Trim(s)
			if a, b, d := plainTrim(s); front != a || mid != b || back != d {
				t.Errorf("P501: Trim(%q): %q, %q, %q", s, front, mid, back)
			}
		}
	}
}

// P501: all short texts of blanks, and of what is none.
func TestTrimAll(t *testing.T) {
	for _, s := range over(" \ta\n\r", 6) {
		front, mid, back := lines.Trim(s)
		if a, b, d := plainTrim(s); front != a || mid != b || back != d {
			t.Fatalf("P501: Trim(%q): %q, %q, %q", s, front, mid, back)
		}
	}
}
