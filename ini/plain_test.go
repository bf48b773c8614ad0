package ini_test

import (
	"fmt"
	"maps"
	"math/rand"
	"regexp"
	"slices"
	"strings"

	"cadence/api"
	"cadence/tree"
)

// e is an edge with these below it.
func e(name string, below ...api.Edge) api.Edge { return api.Edge{Name: name, T: below} }

// k is a key's edge, with its value below it.
func k(name, value string) api.Edge { return e(name, e(value)) }

// x is a text of n bytes.
func x(n int) string { return strings.Repeat("x", n) }

// over are all texts of up to n of these bytes.
func over(bytes string, n int) []string {
	l := []string{""}
	for first := 0; n > 0; n-- {
		last := len(l)
		for ; first < last; first++ {
			for i := range len(bytes) {
				l = append(l, l[first]+bytes[i:i+1])
			}
		}
	}
	return l
}

// What follows is the chapter anew, by regular expressions and maps, so that the package is not its own witness.

var (
	remarked = regexp.MustCompile(`(?s)^[ \t]*([;#].*)?$`)
	headed   = regexp.MustCompile(`(?s)^[ \t]*\[([^\[\] \t]|[^\[\] \t][^\[\]]*[^\[\] \t])\][ \t]*$`)
	keyed    = regexp.MustCompile(`(?s)^([ \t]*([^\[;#= \t][^=]*?)[ \t]*=[ \t]*)(.*?)([ \t]*)$`)
)

// sections are what a file says: of each its keys, with their values.
type sections map[string]map[string]string

func (m sections) tree() api.Tree {
	var t api.Tree
	for _, name := range slices.Sorted(maps.Keys(m)) {
		var keys api.Tree
		for _, key := range slices.Sorted(maps.Keys(m[name])) {
			keys = append(keys, k(key, m[name][key]))
		}
		t = append(t, api.Edge{Name: name, T: keys})
	}
	return t
}

// told is what a tree that fits says.
func told(t api.Tree) sections {
	m := sections{}
	for _, s := range t {
		m[s.Name] = map[string]string{}
		for _, key := range s.T {
			m[s.Name][key.Name] = key.T[0].Name
		}
	}
	return m
}

// plainLine is a line's text and its end.
type plainLine struct{ text, end string }

func plainLines(s string) []plainLine {
	var l []plainLine
	for _, whole := range strings.SplitAfter(s, "\n") {
		text, end := whole, ""
		for _, end = range []string{"\r\n", "\n", ""} {
			if strings.HasSuffix(whole, end) {
				text = strings.TrimSuffix(whole, end)
				break
			}
		}
		if whole != "" {
			l = append(l, plainLine{text, end})
		}
	}
	return l
}

// plainLoad is P602's Load.
func plainLoad(s string) (api.Tree, int, api.Errno) {
	m, keys, here := sections{}, 0, ""
	if len(s) > 4000 {
		return nil, 0, api.ErrLong
	}
	for i, l := range plainLines(s) {
		h, key := headed.FindStringSubmatch(l.text), keyed.FindStringSubmatch(l.text)
		switch {
		case strings.Contains(l.text, "\r"):
			return nil, i + 1, api.ErrLine
		case remarked.MatchString(l.text):
		case h != nil && len(h[1]) <= 80:
			here = h[1]
			if m[here] != nil {
				return nil, i + 1, api.ErrTwice
			}
			m[here] = map[string]string{}
		case key != nil && len(key[2]) <= 80 && len(key[3]) <= 80 && here != "":
			if _, is := m[here][key[2]]; is {
				return nil, i + 1, api.ErrTwice
			}
			m[here][key[2]] = key[3]
			keys++
		default:
			return nil, i + 1, api.ErrLine
		}
	}
	if len(m)+2*keys > 400 {
		return nil, 0, api.ErrMany
	}
	return m.tree(), 0, api.OK
}

// plainFits is P602's Fits: each part of a tree is held against a line made of it.
func plainFits(t api.Tree) api.Errno {
	if e := tree.Check(t); e != api.OK {
		return e
	}
	for _, s := range t {
		if h := headed.FindStringSubmatch("[" + s.Name + "]"); h == nil || strings.ContainsAny(s.Name, "\r\n") {
			return api.ErrFit
		}
		for _, key := range s.T {
			if len(key.T) != 1 || len(key.T[0].T) != 0 {
				return api.ErrFit
			}
			value := key.T[0].Name
			m := keyed.FindStringSubmatch(key.Name + "=" + value)
			if m == nil || m[2] != key.Name || m[3] != value || strings.ContainsAny(m[0], "\r\n") {
				return api.ErrFit
			}
		}
	}
	return api.OK
}

// plainRow is a line of a file that is made: of which section it is, and whether it is a remark.
type plainRow struct {
	plainLine
	section string
	remark  bool
}

// plainPut is P603's Put, of a file that may be: the lines that stay, then each new key behind its section's last line, then the sections that lack.
func plainPut(t api.Tree, s string) (string, api.Errno) {
	want, end := told(t), "\n"
	old, _, _ := plainLoad(s)
	has := told(old)
	var rows []plainRow
	here := ""
	for i, l := range plainLines(s) {
		if i == 0 && l.end != "" {
			end = l.end
		}
		if remarked.MatchString(l.text) {
			rows = append(rows, plainRow{l, here, true})
		} else if h := headed.FindStringSubmatch(l.text); h != nil {
			here = h[1]
			if want[here] != nil {
				rows = append(rows, plainRow{l, here, false})
			}
		} else if m := keyed.FindStringSubmatch(l.text); m != nil {
			if value, is := want[here][m[2]]; is {
				if m[3] == "" {
					m[1], m[4] = strings.TrimRight(m[1], " \t"), m[1][len(strings.TrimRight(m[1], " \t")):]+m[4]
				}
				rows = append(rows, plainRow{plainLine{m[1] + value + m[4], l.end}, here, false})
			}
		}
	}
	for _, name := range slices.Sorted(maps.Keys(want)) {
		if has[name] == nil {
			rows = append(rows, plainRow{plainLine{"[" + name + "]", end}, name, false})
		}
		for _, key := range slices.Sorted(maps.Keys(want[name])) {
			if _, is := has[name][key]; !is {
				rows = behind(rows, plainRow{plainLine{key + "=" + want[name][key], end}, name, false})
			}
		}
	}
	made := ""
	for i, r := range rows {
		if r.end == "" && i < len(rows)-1 {
			r.end = end
		}
		made += r.text + r.end
	}
	if len(made) > 4000 {
		return "", api.ErrLong
	}
	return made, api.OK
}

// behind puts a line behind the last one of its section that is no remark.
func behind(rows []plainRow, r plainRow) []plainRow {
	for i := len(rows) - 1; i >= 0; i-- {
		if rows[i].section == r.section && !rows[i].remark {
			return slices.Insert(rows, i+1, r)
		}
	}
	panic("a section without a header")
}

// randomTree fits, if odd is false; else it may.
func randomTree(r *rand.Rand, odd bool) api.Tree {
	names, values := []string{"a", "b", "c", "a b", "é"}, []string{"", "1", "22", "a = b", "[x]", ";"}
	keys := []string{"x", "y", "z", "x y", "w]"}
	if odd {
		names, values = append(names, "a ", "\tb", "", "a[", "a\n"), append(values, " 1", "1\t", "\r", "\n", x(80))
		keys = append(keys, "", " x", "x\t", "[x", "x=", ";", "#x", "a\r")
	}
	m := sections{}
	for range r.Intn(5) {
		s := map[string]string{}
		for range r.Intn(5) {
			s[keys[r.Intn(len(keys))]] = values[r.Intn(len(values))]
		}
		m[names[r.Intn(len(names))]] = s
	}
	t := m.tree()
	if odd && r.Intn(4) == 0 {
		t = tree.Put(t, []string{names[r.Intn(len(names))], keys[r.Intn(len(keys))], values[r.Intn(len(values))], "more"}[:1+r.Intn(4)], nil)
	}
	return t
}

// randomFile is one that may be, mostly; bad has lines that may not be, too.
func randomFile(r *rand.Rand, bad bool) string {
	pick := func(l ...string) string { return l[r.Intn(len(l))] }
	blank := func() string { return pick("", "", "", " ", "\t", " \t ") }
	var s strings.Builder
	sections := r.Perm(5)[:r.Intn(5)]
	remarks := func() {
		for range r.Intn(3) {
			fmt.Fprint(&s, blank(), pick("", ";", "# a=b", ";[a]", ";;x = 1", "#\x00\xff"), blank(), pick("\n", "\n", "\r\n"))
		}
	}
	remarks()
	for _, i := range sections {
		fmt.Fprint(&s, blank(), "[", []string{"a", "b", "c", "a b", "é"}[i], "]", blank(), pick("\n", "\r\n"))
		remarks()
		for _, j := range r.Perm(5)[:r.Intn(5)] {
			fmt.Fprint(&s, blank(), []string{"x", "y", "z", "x y", "w]"}[j], blank(), "=", blank(), pick("", "1", "22", "a = b", "[x]", ";", "\x00\xff"), blank(), pick("\n", "\n", "\r\n"))
			remarks()
			if bad && r.Intn(9) == 0 {
				fmt.Fprint(&s, blank(), pick("=", "x", "[a", "[]", "x=2", "[a]", "a]=\r1", "\r", ";\r;", "[b][", "[ c]", "["+x(81)+"]", x(81)+"=", "v="+x(81), "u="+x(80)), blank(), pick("\n", "\r\n"))
			}
		}
	}
	whole := s.String()
	if r.Intn(2) == 0 {
		whole = strings.TrimSuffix(strings.TrimSuffix(whole, "\n"), "\r")
	}
	return whole
}
