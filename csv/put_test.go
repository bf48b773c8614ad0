package csv_test

import (
	"fmt"
	"math/rand"
	"strings"
	"testing"

	"cadence/api"
	"cadence/csv"
	"cadence/tree"
)

// puts asks what a tree makes of a file; what is made says the tree (P704).
func puts(t *testing.T, x api.Tree, s, want string) {
	t.Helper()
	got, err := csv.Put(x, s)
	if err != api.OK || got != want {
		t.Errorf("P703: %.300s into %.300q: %.300q, %v, not %.300q", tree.Text(x), s, got, err, want)
	}
	if y, _, err := csv.Load(got); err != api.OK || !tree.Same(x, y) {
		t.Errorf("P704: %.300s into %.300q: loaded %.300s, %v", tree.Text(x), s, tree.Text(y), err)
	}
}

// P703: Create.
func TestCreate(t *testing.T) {
	for _, x := range []struct {
		t    api.Tree
		want string
	}{
		{nil, "key\n"}, {api.Tree{e("x", c("a", "1"))}, "key,a\nx,1\n"}, {api.Tree{e("x")}, "key\nx\n"}, {api.Tree{e("X"), e("key"), e("x")}, "key\nX\nkey\nx\n"}, {api.Tree{e("x", c("b", "2")), e("y", c("a", "3")), e("z")}, "key,a,b\nx,,2\ny,3,\nz,,\n"}, {api.Tree{e("a b", c("c d", " e "))}, "key,c d\na b, e \n"},
		{api.Tree{e(`"`, c(",", `a"b`))}, "key,\",\"\n\"\"\"\",\"a\"\"b\"\n"}, {api.Tree{e("a", c("A", "1"), c("B", "2"), c("a", "3"), c("é", "4"))}, "key,A,B,a,é\na,1,2,3,4\n"}, {api.Tree{e("'", c(";", `\`))}, "key,;\n',\\\n"},
	} {
		if got, err := csv.Create(x.t); got != x.want || err != api.OK {
			t.Errorf("P703: Create(%s): %q, %v, not %q", tree.Text(x.t), got, err, x.want)
		}
		puts(t, x.t, "key\n", x.want)
		puts(t, x.t, "key\r\n", strings.ReplaceAll(x.want, "\n", "\r\n"))
		puts(t, x.t, "key\nq\n", x.want)
		puts(t, x.t, `"key"`+"\n", `"key"`+x.want[3:])
	}
}

// P703: what stays, and what goes; a column stays though no row has it.
func TestPutStays(t *testing.T) {
	s := "\"key\",b,\"a\"\r\n\"y\",1,\"2\"\nx,\"\",\r\n z,\"p,\"\"\",3"
	x, y, z := e("x"), e("y", c("a", "2"), c("b", "1")), e(" z", c("a", "3"), c("b", `p,"`))
	puts(t, api.Tree{z, x, y}, s, s)
	puts(t, nil, s, "\"key\",b,\"a\"\r\n")
	puts(t, api.Tree{x}, s, "\"key\",b,\"a\"\r\nx,\"\",\r\n")
	puts(t, api.Tree{y}, s, "\"key\",b,\"a\"\r\n\"y\",1,\"2\"\n")
	puts(t, api.Tree{z}, s, "\"key\",b,\"a\"\r\n z,\"p,\"\"\",3")
	puts(t, api.Tree{x, y}, s, "\"key\",b,\"a\"\r\n\"y\",1,\"2\"\nx,\"\",\r\n")
	puts(t, api.Tree{z, x}, s, "\"key\",b,\"a\"\r\nx,\"\",\r\n z,\"p,\"\"\",3")
	puts(t, api.Tree{e("x"), e("y")}, s, "\"key\",b,\"a\"\r\n\"y\",,\nx,\"\",\r\n")
	puts(t, nil, "key,a", "key,a")
	puts(t, nil, "key,a\nx,1", "key,a\n")
	puts(t, nil, "key\nx\n", "key\n")
	puts(t, api.Tree{e("key")}, "key\nx\nkey", "key\nkey")
	puts(t, nil, "key\nx\nkey", "key\n")
	puts(t, api.Tree{e("a", c("x", "1"))}, "key,a\nx,1\n", "key,a,x\na,,1\n")
}

// P703: a field stays as it is written where it means what the tree says; else it is written anew, and nothing else is.
func TestPutField(t *testing.T) {
	for _, x := range [][3]string{
		{"1", "1", "1"}, {`"1"`, "1", `"1"`}, {"", "", ""}, {`""`, "", `""`}, {"1", "2", "2"}, {`"1"`, "2", "2"}, {"1", "", ""}, {`"1"`, "", ""}, {"", "1", "1"}, {`""`, "1", "1"}, {" 1", " 1", " 1"}, {" 1", "1", "1"}, {"1", " 1 ", " 1 "}, {"1", "01", "01"}, {"a", "A", "A"},
		{"1", ",", `","`}, {`","`, ",", `","`}, {"1", `"`, `""""`}, {`""""`, `"`, `""""`}, {`""""`, `""`, `""""""`}, {`""""""`, `"`, `""""`}, {`"1"`, `"1"`, `"""1"""`}, {`"""1"""`, "1", "1"}, {`"a"",""b"`, `a","b`, `"a"",""b"`}, {`"a"",""b"`, `a,"b`, `"a,""b"`}, {"1", `a"`, `"a"""`}, {"1", "a'b;c\\", "a'b;c\\"}, {"1", "\t\x00\xff", "\t\x00\xff"}, {x(80), x(79) + ",", `"` + x(79) + `,"`}, {"1", strings.Repeat(`"`, 80), strings.Repeat(`"`, 162)},
	} {
		row, other := e("x"), e("x", c("b", "2"))
		if x[1] != "" {
			row, other = e("x", c("a", x[1])), e("x", c("a", x[1]), c("b", "2"))
		}
		puts(t, api.Tree{row}, "key,a\nx,"+x[0], "key,a\nx,"+x[2])
		puts(t, api.Tree{row}, "key,a,b\n\"x\","+x[0]+",\"\"\n", "key,a,b\n\"x\","+x[2]+",\"\"\n")
		puts(t, api.Tree{row}, "key,b,\"a\"\r\nx,1,"+x[0]+"\r\n", "key,b,\"a\"\r\nx,,"+x[2]+"\r\n")
		puts(t, api.Tree{e("w"), other}, "key,a,b\nx,"+x[0]+",\"2\"\nw,,\n", "key,a,b\nx,"+x[2]+",\"2\"\nw,,\n")
	}
	puts(t, api.Tree{e("x", c("a", "2"), c("b", "1")), e("y", c("a", "1"), c("b", "2"))}, "key,a,b\nx,1,\"2\"\ny,\"1\",2\n", "key,a,b\nx,2,1\ny,\"1\",2\n")
}

// P703: new columns stand behind the others, in the head and in each record.
func TestPutColumns(t *testing.T) {
	for _, x := range []struct {
		t       api.Tree
		s, want string
	}{
		{api.Tree{e("x", c("a", "1"))}, "key\nx", "key,a\nx,1"}, {api.Tree{e("x", c("a", "1"), c("b", "2"))}, "key,b\nx,\"2\"\n", "key,b,a\nx,\"2\",1\n"}, {api.Tree{e("x", c("a", "1"), c("c", "3")), e("y", c("b", "2"), c("m", "4"))}, "key,m\ny,4\nx,5\n", "key,m,a,b,c\ny,4,,2,\nx,,1,,3\n"}, {api.Tree{e("x", c("A", "1"), c("a", "2"), c("é", "3"))}, "key,b\nx,\n", "key,b,A,a,é\nx,,1,2,3\n"},
		{api.Tree{e("x"), e("y", c("a", "1"))}, "key\nx\ny", "key,a\nx,\ny,1"}, {api.Tree{e("x"), e("y", c("a", "1"))}, "key\nx", "key,a\nx,\ny,1\n"}, {api.Tree{e("x", c(",", `"`), c("a b", " "))}, "\"key\"\n\"x\"", "\"key\",\",\",a b\n\"x\",\"\"\"\", "}, {api.Tree{e("x", c("a", "1"))}, "key,\"A\",\" a\"\r\nx,,\"\"\r\n", "key,\"A\",\" a\",a\r\nx,,\"\",1\r\n"}, {api.Tree{e("x", c("x", "1"))}, "key\nx\n", "key,x\nx,1\n"},
		{api.Tree{e("y", c("b", "1"))}, "key,a\nx,1\n", "key,a,b\ny,,1\n"}, {api.Tree{e("x", c("a", "a"), c("b", "b"), c("c", "c"), c("d", "d"))}, "key,d,b\nx,d,b", "key,d,b,a,c\nx,d,b,a,c"},
	} {
		puts(t, x.t, x.s, x.want)
	}
}

// P703: new rows stand at the end, in order.
func TestPutRows(t *testing.T) {
	for _, x := range []struct {
		t       api.Tree
		s, want string
	}{
		{api.Tree{e("x"), e("y")}, "key\ny\n", "key\ny\nx\n"}, {api.Tree{e("a", c("a", "1")), e("b"), e("c", c("b", "2"))}, "key,b,a\nb,,\"\"\n", "key,b,a\nb,,\"\"\na,,1\nc,2,\n"}, {api.Tree{e("B"), e("a"), e("b"), e("é")}, "key,c\r\n", "key,c\r\nB,\r\na,\r\nb,\r\né,\r\n"}, {api.Tree{e("b", c("a", "1"))}, "key,a\na,1", "key,a\nb,1\n"}, {api.Tree{e("a"), e("b"), e("c")}, "key\nd\nb\ne", "key\nb\na\nc\n"},
		{api.Tree{e(`"`, c("a", `,`)), e(",")}, "key,a,b", "key,a,b\n\"\"\"\",\",\",\n\",\",,\n"}, {api.Tree{e("X"), e("x")}, "key\nx\n", "key\nx\nX\n"}, {api.Tree{e("key", c("a", "key"))}, "\"key\",a\n", "\"key\",a\nkey,key\n"}, {api.Tree{e("a"), e("b"), e("c", c("n", "1"))}, "key,m\nb,\"\"", "key,m,n\nb,\"\",\na,,\nc,,1\n"},
	} {
		puts(t, x.t, x.s, x.want)
	}
}

// P703: how new lines end, and what lacked an end.
func TestPutEnds(t *testing.T) {
	some := api.Tree{e("x", c("a", "1")), e("z")}
	for _, x := range []struct {
		t       api.Tree
		s, want string
	}{
		{some, "key,a", "key,a\nx,1\nz,\n"}, {some, "key,a\r\n", "key,a\r\nx,1\r\nz,\r\n"}, {some, "key,a\r\nx,1", "key,a\r\nx,1\r\nz,\r\n"}, {some, "key,a\nx,1", "key,a\nx,1\nz,\n"}, {some, "key,a\nx,1\r\n", "key,a\nx,1\r\nz,\n"}, {some, "key,a\r\nx,1\n", "key,a\r\nx,1\nz,\r\n"}, {some, "key,a\r\nz,\nx,1", "key,a\r\nz,\nx,1"}, {some, "key,a\nx,\r\nz,", "key,a\nx,1\r\nz,"}, {some, "key,a\r\ny,1\nz,", "key,a\r\nz,\r\nx,1\r\n"}, {some, "key,a\r\nz,\ny,1", "key,a\r\nz,\nx,1\r\n"}, {some, "key,a\ny,\r\nx,2\r\nz,3", "key,a\nx,1\r\nz,"}, {some, "key\r\nx\nz", "key,a\r\nx,1\nz,"},
		{nil, "key\r\nx", "key\r\n"}, {api.Tree{e("x")}, "key\nx\r\ny", "key\nx\r\n"}, {api.Tree{e("y")}, "key\nx\r\ny", "key\ny"}, {api.Tree{e("y")}, "key\nx\ny\r\n", "key\ny\r\n"}, {nil, "key", "key"}, {api.Tree{e("x", c("a", "1"))}, "key", "key,a\nx,1\n"},
	} {
		puts(t, x.t, x.s, x.want)
	}
}

// P703, P6: Load's error of the file, then Fits' of the tree, then ErrLong; P4: nothing beside them.
func TestPutErrors(t *testing.T) {
	fine, unfit, wrong, wide := api.Tree{e("a")}, api.Tree{e("\n")}, api.Tree{e("b"), e("a")}, api.Tree{}
	for i := range 60 {
		wide = append(wide, e("a"+x(i), c("c", x(80))))
	}
	bad := map[string]api.Errno{"": api.ErrNone, "\n": api.ErrLine, "key\n\n": api.ErrLine, "key,a\nx": api.ErrLine, "key\n\r": api.ErrLine, "key,\"": api.ErrLine, "key,a,a": api.ErrTwice, "key\nx\nx\n": api.ErrTwice, strings.Repeat("\n", 4001): api.ErrLong, "key,a\n" + rows(401): api.ErrMany, "key,a\n" + full(134): api.ErrMany}
	for s, want := range bad {
		for i, x := range []api.Tree{nil, fine, unfit, wrong, wide} {
			if got, err := csv.Put(x, s); got != "" || err != want {
				t.Errorf("P703, P4, P6: %d into %.30q: %q, %v, not %v", i, s, got, err, want)
			}
		}
	}
	for _, s := range []string{"key", "key,c\nx,1\n", "key,a\n" + rows(400)} {
		for i, want := range []api.Errno{api.ErrFit, api.ErrName, api.ErrLong} {
			if got, err := csv.Put([]api.Tree{unfit, wrong, wide}[i], s); got != "" || err != want {
				t.Errorf("P703, P4, P6: %d into %.30q: %q, %v, not %v", i, s, got, err, want)
			}
		}
	}
	if got, err := csv.Create(wide); got != "" || err != api.ErrLong {
		t.Errorf("P703, P4: %q, %v", got, err)
	}
}

// P703: 4000 bytes are not too many, 4001 are: of what is made, not of what was there.
func TestPutLong(t *testing.T) {
	long := func(x api.Tree, s string) {
		t.Helper()
		if got, err := csv.Put(x, s); got != "" || err != api.ErrLong {
			t.Errorf("P703: %d bytes, %v", len(got), err)
		}
	}
	// Each of these lines has 80 bytes, but the head, that has 6: 49 of them, and one of 74, are not too many.
	var some api.Tree
	want := "key,a\n"
	for i := range 49 {
		name := fmt.Sprintf("%02d", i)
		some = append(some, e(name, c("a", x(76))))
		want += name + "," + x(76) + "\n"
	}
	puts(t, append(some, e("y", c("a", x(71)))), "key,a", want+"y,"+x(71)+"\n")
	long(append(some, e("y", c("a", x(72)))), "key,a\n")
	long(append(some, e("y", c("a", x(69)+","))), "key,a\n")
	puts(t, append(some, e("y", c("a", x(68)+","))), "key,a\n", want+"y,\""+x(68)+",\"\n")
	puts(t, append(some, e("y", c("a", x(72)))), want+"y,1", want+"y,"+x(72))
	long(append(some, e("y", c("a", x(73)))), want+"y,1")
	long(append(some, e("y", c("a", x(71)))), "key,b\n")
	puts(t, append(some, e("y", c("a", x(70)))), "key,a\ny,\"1\"\n"+want[6:], "key,a\ny,"+x(70)+"\n"+want[6:])
	puts(t, some[:1], want+"y,"+x(72), want[:86])
	s := "key"
	for i := range 799 {
		s += fmt.Sprintf(",%04d", i)
	}
	puts(t, nil, s, s)
	long(api.Tree{e("x")}, s)
	long(api.Tree{e("x", c("a", "1"))}, s)
}

// same holds Put against the chapter anew, and against P704.
func same(t *testing.T, x api.Tree, s string) {
	t.Helper()
	got, err := csv.Put(x, s)
	if want, fault := plainPut(x, s); got != want || err != fault {
		t.Fatalf("P703: %s into %q: %q, %v, not %q, %v", tree.Text(x), s, got, err, want, fault)
	}
	if err != api.OK {
		return
	}
	if y, _, fault := csv.Load(got); fault != api.OK || !tree.Same(x, y) {
		t.Fatalf("P704: %s into %q: %q, loaded as %s, %v", tree.Text(x), s, got, tree.Text(y), fault)
	}
	if again, fault := csv.Put(x, got); fault != api.OK || again != got {
		t.Fatalf("P704: %s into %q: %q, put again %q, %v", tree.Text(x), s, got, again, fault)
	}
}

// P703, P704: all short files that may be, with some trees each.
func TestPutAll(t *testing.T) {
	trees := []api.Tree{nil, {e("x")}, {e("x", c("a", "x"))}, {e("x", c("a", ","), c("b", "x"))}, {e(`"`, c("A", "x"), c("a", `"`)), e("x", c("x", "x"))}, {e("X"), e("y")}}
	for _, s := range over("\",\r\nx", 5) {
		for _, s := range []string{"key" + s, "key,a\n" + s, "\"key\",x,a\r\nx," + s, "key\nx\n" + s, "key,x\ny,\nx," + s + "\n"} {
			if old, _, err := plainLoad(s); err == api.OK {
				same(t, old, s)
				for _, x := range trees {
					same(t, x, s)
				}
			}
		}
	}
}

// P703, P704: files and trees of many kinds, and each file's own tree, as it is and changed.
func TestPutRandom(t *testing.T) {
	r := rand.New(rand.NewSource(6))
	for range 10000 {
		s := randomFile(r)
		old, _, err := csv.Load(s)
		if err != api.OK {
			t.Fatalf("P702: %q: %v", s, err)
		}
		if got, err := csv.Put(old, s); got != s || err != api.OK {
			t.Fatalf("P704: %q is put back as %q, %v", s, got, err)
		}
		same(t, randomTree(r, false), s)
		same(t, changed(r, old), s)
	}
}

// changed is a tree with one change.
func changed(r *rand.Rand, x api.Tree) api.Tree {
	names := append(tree.Names(x), "new")
	path := []string{names[r.Intn(len(names))], append(someColumns, "new")[r.Intn(len(someColumns)+1)]}
	switch r.Intn(4) {
	case 0:
		return tree.Drop(x, path[:1])
	case 1:
		return tree.Drop(x, path)
	}
	return tree.Put(x, path, api.Tree{e([]string{",", "1", "other"}[r.Intn(3)])})
}

// P703: of any file and any tree: Load's error, or Fits', or what the chapter makes of them.
func TestPutOdd(t *testing.T) {
	r := rand.New(rand.NewSource(7))
	for range 10000 {
		s, x := randomFile(r), randomTree(r, true)
		if r.Intn(2) == 0 {
			s = spoilt(r, s)
		}
		_, _, want := plainLoad(s)
		if want == api.OK {
			want = plainFits(x)
		}
		if want == api.OK {
			same(t, x, s)
		} else if got, err := csv.Put(x, s); got != "" || err != want {
			t.Fatalf("P703, P6: %s into %q: %q, %v, not %v", tree.Text(x), s, got, err, want)
		}
	}
}
