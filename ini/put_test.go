package ini_test

import (
	"math/rand"
	"strings"
	"testing"

	"cadence/api"
	"cadence/ini"
	"cadence/tree"
)

// puts asks what a tree makes of a file; what is made says the tree (P604).
func puts(t *testing.T, x api.Tree, s, want string) {
	t.Helper()
	got, err := ini.Put(x, s)
	if err != api.OK || got != want {
		t.Errorf("P603: %s into %.300q: %.300q, %v, not %.300q", tree.Text(x), s, got, err, want)
	}
	if y, _, err := ini.Load(got); err != api.OK || !tree.Same(x, y) {
		t.Errorf("P604: %s into %.300q: loaded %s, %v", tree.Text(x), s, tree.Text(y), err)
	}
}

// P603: Create, and the chapter's example.
func TestCreate(t *testing.T) {
	for _, x := range []struct {
		t    api.Tree
		want string
	}{
		{nil, ""}, {api.Tree{e("a", k("b", "c"))}, "[a]\nb=c\n"}, {api.Tree{e("a")}, "[a]\n"}, {api.Tree{e("a", k("k", ""))}, "[a]\nk=\n"}, {api.Tree{e("A", k("K", "v"), k("k", "w")), e("a")}, "[A]\nK=v\nk=w\n[a]\n"}, {api.Tree{e("a b", k("c d", "e f"))}, "[a b]\nc d=e f\n"},
		{api.Tree{e("a", k("1", "="), k("2", ";")), e("b"), e("c", k("3", "[a]"))}, "[a]\n1==\n2=;\n[b]\n[c]\n3=[a]\n"},
	} {
		if got, err := ini.Create(x.t); got != x.want || err != api.OK {
			t.Errorf("P603: Create(%s): %q, %v, not %q", tree.Text(x.t), got, err, x.want)
		}
		puts(t, x.t, "", x.want)
		puts(t, x.t, ";r\n", ";r\n"+x.want)
		puts(t, x.t, "\r\n", "\r\n"+strings.ReplaceAll(x.want, "\n", "\r\n"))
	}
}

// P603: what stays, and what goes.
func TestPutStays(t *testing.T) {
	s := "; top\r\n\n [b]\t\n; of b\n\tk = v ;\t\n\nl=\n[a]\r\n#of a\n k=1\n;end"
	a, b := e("a", k("k", "1")), e("b", k("k", "v ;"), k("l", ""))
	puts(t, api.Tree{a, b}, s, s)
	puts(t, nil, s, "; top\r\n\n; of b\n\n#of a\n;end")
	puts(t, api.Tree{a}, s, "; top\r\n\n; of b\n\n[a]\r\n#of a\n k=1\n;end")
	puts(t, api.Tree{b}, s, "; top\r\n\n [b]\t\n; of b\n\tk = v ;\t\n\nl=\n#of a\n;end")
	puts(t, api.Tree{e("a"), e("b")}, s, "; top\r\n\n [b]\t\n; of b\n\n[a]\r\n#of a\n;end")
	puts(t, api.Tree{e("a"), e("b", k("l", ""))}, s, "; top\r\n\n [b]\t\n; of b\n\nl=\n[a]\r\n#of a\n;end")
	puts(t, api.Tree{a, e("b", k("k", "v ;"))}, s, "; top\r\n\n [b]\t\n; of b\n\tk = v ;\t\n\n[a]\r\n#of a\n k=1\n;end")
	puts(t, api.Tree{e("k", k("a", "1"))}, "[a]\nk=1\n[b]\nk=1", "[k]\na=1\n")
	puts(t, api.Tree{e("a", k("l", "1")), e("b", k("k", "1"))}, "[a]\nk=1\n[b]\nl=1\n", "[a]\nl=1\n[b]\nk=1\n")
	puts(t, api.Tree{e("a")}, "[a]\nk=1", "[a]\n")
	puts(t, api.Tree{e("a")}, "[a]\n[b]", "[a]\n")
	puts(t, nil, "[a]", "")
	puts(t, nil, "[a]\nk=v\n", "")
}

// P603: a value gives way to another one, byte for byte, and nothing else does.
func TestPutValue(t *testing.T) {
	for _, x := range [][3]string{
		{"k=v", "w", "k=w"}, {"k=v\n", "", "k=\n"}, {"k=\n", "w", "k=w\n"}, {" k = v \n", "w", " k = w \n"}, {"\tk\t=\tv\t\r\n", "long one", "\tk\t=\tlong one\t\r\n"}, {" k = v\t", "", " k = \t"}, {"k=  \n", "w", "k=w  \n"}, {"k = \t\r\n", "w", "k =w \t\r\n"}, {"k \t= ", "", "k \t= "}, {"k=", "w", "k=w"},
		{"k= = \n", "==", "k= == \n"}, {"k==v", "v", "k=v"}, {"k = a = b ; c \n", "a", "k = a \n"}, {"k=a b\n", "a  b", "k=a  b\n"}, {"k=k\n", "v", "k=v\n"}, {"k= k k k \n", "k k", "k= k k \n"}, {"k=;\n", "#", "k=#\n"}, {"k= v\n", "V", "k= V\n"}, {"k= 1\n", "01", "k= 01\n"}, {"k = " + x(80) + " ", x(79) + "y", "k = " + x(79) + "y "},
	} {
		puts(t, api.Tree{e("s", k("k", x[1]))}, "[s]\n"+x[0], "[s]\n"+x[2])
		puts(t, api.Tree{e("r"), e("s", k("k", x[1]))}, "[r]\n;\n[s]\n\n"+x[0], "[r]\n;\n[s]\n\n"+x[2])
	}
	puts(t, api.Tree{e("a", k("k", "1"), k("l", "2")), e("b", k("k", "3"), k("l", "1"))}, "[a]\nk=1\nl=1\n[b]\nk=1\nl=1\n", "[a]\nk=1\nl=2\n[b]\nk=3\nl=1\n")
}

// P603: new keys stand behind the last line of their section that stays and is no remark.
func TestPutKeys(t *testing.T) {
	for _, x := range []struct {
		t       api.Tree
		s, want string
	}{
		{api.Tree{e("a", k("k", "v"))}, "[a]", "[a]\nk=v\n"}, {api.Tree{e("a", k("k", "v"))}, "[a]\n;r\n\n", "[a]\nk=v\n;r\n\n"}, {api.Tree{e("a", k("k", "v"), k("l", ""), k("m", "w"))}, "[a]\n;1\nl=\n;2\n", "[a]\n;1\nl=\nk=v\nm=w\n;2\n"},
		{api.Tree{e("a", k("k", "v"), k("z", "w"))}, "[a]\nz=w\n;r\ny=1\n;s\n", "[a]\nz=w\nk=v\n;r\n;s\n"}, {api.Tree{e("a", k("k", "v"))}, "[a]\n;r\ny=1\n;s\n", "[a]\nk=v\n;r\n;s\n"}, {api.Tree{e("a", k("B", "1"), k("a", "2"), k("b", "3"), k("é", "4"))}, ";\n[a]\na=2\n", ";\n[a]\na=2\nB=1\nb=3\né=4\n"},
		{api.Tree{e("a", k("k", "1")), e("b", k("k", "2")), e("c", k("k", "3"))}, "[c]\n;c\n[a]\n;a\n[b]\n;b", "[c]\nk=3\n;c\n[a]\nk=1\n;a\n[b]\nk=2\n;b"}, {api.Tree{e("a", k("k", "1"), k("l", "2")), e("b")}, "[a]\nl=2\n[b]\n", "[a]\nl=2\nk=1\n[b]\n"}, {api.Tree{e("a", k("k", "1"), k("l", "9")), e("c")}, "[a]\nl=2\n;1\n[b]\nm=1\n;2\n[c]", "[a]\nl=9\nk=1\n;1\n;2\n[c]"},
		{api.Tree{e("a", k("k", "v"), k("x", "1"))}, "[a]\n\tx\t=\t1\t", "[a]\n\tx\t=\t1\t\nk=v\n"}, {api.Tree{e("a", k("b b", "c = d"))}, " [a] ", " [a] \nb b=c = d\n"},
	} {
		puts(t, x.t, x.s, x.want)
	}
}

// P603: new sections stand at the end.
func TestPutSections(t *testing.T) {
	for _, x := range []struct {
		t       api.Tree
		s, want string
	}{
		{api.Tree{e("a"), e("b")}, "[b]\n", "[b]\n[a]\n"}, {api.Tree{e("a", k("l", "1"), k("m", "")), e("b"), e("c", k("k", "v"))}, ";r\n[b]\n;s\n\n", ";r\n[b]\n;s\n\n[a]\nl=1\nm=\n[c]\nk=v\n"}, {api.Tree{e("b", k("k", "v"))}, "[a]\nk=v\n;r", ";r\n[b]\nk=v\n"}, {api.Tree{e("b", k("k", "v"))}, "[a]\nk=v", "[b]\nk=v\n"},
		{api.Tree{e("a", k("k", "v")), e("b", k("k", "v"))}, "[b]\n;r", "[b]\nk=v\n;r\n[a]\nk=v\n"}, {api.Tree{e("B"), e("a"), e("b"), e("é")}, "\n", "\n[B]\n[a]\n[b]\n[é]\n"}, {api.Tree{e("a"), e("b"), e("c")}, "[d]\n[b]\n[e]", "[b]\n[a]\n[c]\n"},
	} {
		puts(t, x.t, x.s, x.want)
	}
}

// P603: how new lines end, and what lacked an end.
func TestPutEnds(t *testing.T) {
	some := api.Tree{e("a", k("k", "v"), k("n", "1")), e("c")}
	for _, x := range []struct {
		t       api.Tree
		s, want string
	}{
		{some, "[a]\nk=v", "[a]\nk=v\nn=1\n[c]\n"}, {some, "[a]\r\nk=v", "[a]\r\nk=v\r\nn=1\r\n[c]\r\n"}, {some, "[a]\r\nk=v\n", "[a]\r\nk=v\nn=1\r\n[c]\r\n"}, {some, "[a]\nk=v\r\n;r", "[a]\nk=v\r\nn=1\n;r\n[c]\n"}, {some, ";\r\n[a]\nk=v\n[c]", ";\r\n[a]\nk=v\nn=1\r\n[c]"}, {some, "[c]\n[a]\nk=v", "[c]\n[a]\nk=v\nn=1\n"}, {some, "[c]\r\n[a]\n;r", "[c]\r\n[a]\nk=v\r\nn=1\r\n;r"},
		{some, "[b]\r\n[a]\n", "[a]\nk=v\r\nn=1\r\n[c]\r\n"}, {some, "[b]\n[a]\r\nk=v\r\n", "[a]\r\nk=v\r\nn=1\n[c]\n"}, {some, "[b]\r\nx=1", "[a]\r\nk=v\r\nn=1\r\n[c]\r\n"}, {some, "[b]", "[a]\nk=v\nn=1\n[c]\n"}, {some, "[a]", "[a]\nk=v\nn=1\n[c]\n"}, {some, "[a]\r\n[b]\n;r", "[a]\r\nk=v\r\nn=1\r\n;r\r\n[c]\r\n"}, {some, "\r\n ", "\r\n \r\n[a]\r\nk=v\r\nn=1\r\n[c]\r\n"}, {some, " ", " \n[a]\nk=v\nn=1\n[c]\n"},
		{api.Tree{e("a")}, "[b]\r\n[a]\nx=1\r\n;r", "[a]\n;r"}, {api.Tree{e("a")}, "[a]\r\n;r\n[b]", "[a]\r\n;r\n"}, {api.Tree{e("a", k("k", "w"))}, "[a]\r\nk=v", "[a]\r\nk=w"}, {api.Tree{e("a", k("k", "w"))}, "[a]\r\nk=v\n\n", "[a]\r\nk=w\n\n"},
	} {
		puts(t, x.t, x.s, x.want)
	}
}

// P603, P6: Load's error of the file, then Fits' of the tree, then ErrLong; P4: nothing beside them.
func TestPutErrors(t *testing.T) {
	fine, unfit, wrong, wide := api.Tree{e("a")}, api.Tree{e(" ")}, api.Tree{e("b"), e("a")}, api.Tree{}
	for i := range 60 {
		wide = append(wide, e("a"+x(i), k("k", x(80))))
	}
	bad := map[string]api.Errno{"k=v": api.ErrLine, "[a]\nk": api.ErrLine, "[a]\n\r": api.ErrLine, "[a]\n[a]": api.ErrTwice, "[a]\nk=1\nk=1\n": api.ErrTwice, strings.Repeat("\n", 4001): api.ErrLong, "[" + strings.Repeat("\n", 4001): api.ErrLong, heads(401): api.ErrMany, "[a]\n" + keys(200): api.ErrMany}
	for s, want := range bad {
		for i, x := range []api.Tree{nil, fine, unfit, wrong, wide} {
			if got, err := ini.Put(x, s); got != "" || err != want {
				t.Errorf("P603, P4, P6: %d into %.30q: %q, %v, not %v", i, s, got, err, want)
			}
		}
	}
	for _, s := range []string{"", "[a]\nk=v\n", strings.Repeat("\n", 4000), ";" + x(3999)} {
		for i, want := range []api.Errno{api.ErrFit, api.ErrName, api.ErrLong} {
			if got, err := ini.Put([]api.Tree{unfit, wrong, wide}[i], s); got != "" || err != want {
				t.Errorf("P603, P4, P6: %d into %.30q: %q, %v, not %v", i, s, got, err, want)
			}
		}
	}
	if got, err := ini.Create(wide); got != "" || err != api.ErrLong {
		t.Errorf("P603, P4: %q, %v", got, err)
	}
}

// P603: 4000 bytes are not too many, 4001 are: of what is made, not of what was there.
func TestPutLong(t *testing.T) {
	some := api.Tree{e("a", k("k", "v"))}
	long := func(x api.Tree, s string) {
		t.Helper()
		if got, err := ini.Put(x, s); got != "" || err != api.ErrLong {
			t.Errorf("P603: %d bytes, %v", len(got), err)
		}
	}
	r := strings.Repeat("\n", 3992)
	puts(t, some, r, r+"[a]\nk=v\n")
	long(some, r+"\n")
	puts(t, some, "[a]\n"+r, "[a]\nk=v\n"+r)
	long(some, "[a]\n\n"+r)
	puts(t, some, "[a]\nk="+strings.Repeat(" ", 3993), "[a]\nk=v"+strings.Repeat(" ", 3993))
	long(some, "[a]\nk="+strings.Repeat(" ", 3994))
	puts(t, some, "[a]\nk=v"+r+" ", "[a]\nk=v"+r+" ")
	puts(t, some, "[a]\nk=ww"+r, "[a]\nk=v"+r)
	puts(t, some, "[b]\nk=v\n"+r, r+"[a]\nk=v\n")
	puts(t, some, ";"+strings.Repeat("#", 3990), ";"+strings.Repeat("#", 3990)+"\n[a]\nk=v\n")
	long(some, ";"+strings.Repeat("#", 3991))
	// Each of these sections has 160 bytes: 25 of them are not too many.
	var wide api.Tree
	want := ""
	for i := range 26 {
		name := string(rune('a' + i))
		wide = append(wide, e(name, k(x(74), x(80))))
		want += "[" + name + "]\n" + x(74) + "=" + x(80) + "\n"
	}
	puts(t, wide[:25], "", want[:4000])
	long(wide[:25], "\n")
	long(wide, "")
}

// P603, P604: all short files that may be, with some trees each.
func TestPutAll(t *testing.T) {
	trees := []api.Tree{nil, {e("a")}, {e("a", k("a", "a"))}, {e("a", k("a", ""), k("b", "a"))}, {e("a", k("A", "a"), k("a", "a a")), e("b", k("a", ""))}, {e("A"), e("b")}}
	for _, s := range append(over("a= \n\r;", 5), over("[]a\n=b", 5)...) {
		for _, s := range []string{s, "[a]" + s, "[a]\n" + s, "\r\n[b]\n;\n[a]\n" + s} {
			if old, _, err := plainLoad(s); err == api.OK {
				same(t, old, s)
				for _, x := range trees {
					same(t, x, s)
				}
			}
		}
	}
}

// same holds Put against the chapter anew, and against P604.
func same(t *testing.T, x api.Tree, s string) {
	t.Helper()
	got, err := ini.Put(x, s)
	if want, fault := plainPut(x, s); got != want || err != fault {
		t.Fatalf("P603: %s into %q: %q, %v, not %q, %v", tree.Text(x), s, got, err, want, fault)
	}
	if y, _, fault := ini.Load(got); err == api.OK && (fault != api.OK || !tree.Same(x, y)) {
		t.Fatalf("P604: %s into %q: %q, loaded as %s, %v", tree.Text(x), s, got, tree.Text(y), fault)
	}
	if again, fault := ini.Put(x, got); err == api.OK && (fault != api.OK || again != got) {
		t.Fatalf("P604: %s into %q: %q, put again %q, %v", tree.Text(x), s, got, again, fault)
	}
}

// P603, P604: files and trees of many kinds, and each file's own tree.
func TestPutRandom(t *testing.T) {
	r := rand.New(rand.NewSource(6))
	for range 10000 {
		s := randomFile(r, false)
		old, _, err := ini.Load(s)
		if err != api.OK {
			t.Fatalf("P602: %q: %v", s, err)
		}
		if got, err := ini.Put(old, s); got != s || err != api.OK {
			t.Fatalf("P604: %q is put back as %q, %v", s, got, err)
		}
		same(t, randomTree(r, false), s)
		same(t, changed(r, old), s)
	}
}

// changed is a tree with one change.
func changed(r *rand.Rand, x api.Tree) api.Tree {
	names, keys := append(tree.Names(x), "new"), []string{"x", "y", "new"}
	path := []string{names[r.Intn(len(names))], keys[r.Intn(len(keys))]}
	switch r.Intn(4) {
	case 0:
		return tree.Drop(x, path[:1])
	case 1:
		return tree.Drop(x, path)
	}
	return tree.Put(x, path, api.Tree{e([]string{"", "1", "other"}[r.Intn(3)])})
}

// P603: of any file and any tree: Load's error, or Fits', or what the chapter makes of them.
func TestPutOdd(t *testing.T) {
	r := rand.New(rand.NewSource(7))
	for range 10000 {
		s, x := randomFile(r, true), randomTree(r, true)
		_, _, want := plainLoad(s)
		if want == api.OK {
			want = plainFits(x)
		}
		if want == api.OK {
			same(t, x, s)
		} else if got, err := ini.Put(x, s); got != "" || err != want {
			t.Fatalf("P603, P6: %s into %q: %q, %v, not %v", tree.Text(x), s, got, err, want)
		}
	}
}
