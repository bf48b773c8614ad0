package commit_test

import (
	"fmt"
	"testing"

	"cadence/api"
	"cadence/commit"
	"cadence/vfs"
)

// refusal is what the chapter has against a list of files.
func refusal(l []commit.File) api.Errno {
	if len(l) == 0 || len(l) > 8 {
		return api.ErrArg
	}
	ahead := map[string]int{}
	for _, x := range l {
		ahead[x.Name]++
		if x.Name == "" || len(x.Name) > 20 || x.Name == "journal" || x.Name == "mark" {
			return api.ErrName
		}
		if ahead[x.Name] == 2 {
			return api.ErrTwice
		}
		if len(x.B) > 8000 {
			return api.ErrLong
		}
	}
	return api.OK
}

// inOrder does the steps, up to one that has an error.
func inOrder(steps []func() api.Errno) api.Errno {
	for _, step := range steps {
		if e := step(); e != api.OK {
			return e
		}
	}
	return api.OK
}

// opening and closing are the chapter's steps, as it lists them.
func opening(v *vfs.Vfs, l []commit.File) []func() api.Errno {
	return []func() api.Errno{
		func() api.Errno { return v.Write("journal", []byte(journalOf(l))) },
		v.Flush,
		func() api.Errno { return v.Write("mark", nil) },
		v.Flush,
	}
}

func closing(v *vfs.Vfs, l []commit.File) []func() api.Errno {
	var steps []func() api.Errno
	for _, x := range l {
		steps = append(steps, func() api.Errno { return v.Write(x.Name, x.B) })
	}
	return append(steps, v.Flush,
		func() api.Errno { return v.Remove("mark") },
		v.Flush,
		func() api.Errno { return v.Remove("journal") },
		v.Flush)
}

// size is how many bytes a file has.
func size(v *vfs.Vfs, name string) int {
	b, _, _ := v.Read(name)
	return len(b)
}

// plainCommit is the chapter's Commit, anew.
func plainCommit(v *vfs.Vfs, l []commit.File) api.Errno {
	if e := refusal(l); e != api.OK {
		return e
	}
	if v.Dead() {
		return api.ErrDead
	}
	need := v.Used() + len(journalOf(l))
	for _, x := range l {
		if len(x.B) > size(v, x.Name) {
			need += len(x.B) - size(v, x.Name)
		}
	}
	if need > v.Room() {
		return api.ErrFull
	}
	return inOrder(append(opening(v, l), closing(v, l)...))
}

// text reads one of a journal, and tells what is behind it.
func text(s string) (first, rest string, is bool) {
	if len(s) < 2 || len(s)-2 < int(s[0])+256*int(s[1]) {
		return "", "", false
	}
	n := int(s[0]) + 256*int(s[1])
	return s[2 : 2+n], s[2+n:], true
}

// said are the files of a journal, if it is one.
func said(s string) ([]commit.File, bool) {
	if s == "" {
		return nil, false
	}
	n, s := int(s[0]), s[1:]
	var l []commit.File
	for range n {
		name, rest, is := text(s)
		b, rest, too := text(rest)
		if !is || !too {
			return nil, false
		}
		l, s = append(l, commit.File{Name: name, B: []byte(b)}), rest
	}
	return l, s == "" && refusal(l) == api.OK
}

// plainRecover is the chapter's Recover, anew. Where a Write would have no room, nothing is done (P5).
func plainRecover(v *vfs.Vfs) api.Errno {
	if v.Dead() {
		return api.ErrDead
	}
	b, journal, _ := v.Read("journal")
	_, mark, _ := v.Read("mark")
	if !mark && !journal {
		return api.OK
	}
	if !mark {
		return inOrder(closing(v, nil)[3:])
	}
	l, is := said(string(b))
	if !journal || !is {
		return api.ErrBad
	}
	used := v.Used()
	for _, x := range l {
		if used += len(x.B) - size(v, x.Name); used > v.Room() {
			return api.ErrFull
		}
	}
	return inOrder(closing(v, l))
}

// oddJournal is the journal of some files, now and then not quite.
func (d *die) oddJournal() string {
	s := []byte(journalOf(d.files()))
	switch d.of(6) {
	case 0:
		s[d.of(len(s))] = byte(d.of(256))
	case 1:
		s = s[:d.of(len(s))]
	case 2:
		s = append(s, d.text(3)...)
	case 3:
		s = []byte(d.text(9))
	}
	return string(s)
}

// thrown does one thing to both, and tells what it was, and what each answered.
func (d *die) thrown(v, w *vfs.Vfs) (what string, got, want api.Errno) {
	switch d.of(16) {
	case 0, 1, 2, 3:
		l := d.files()
		return fmt.Sprintf("Commit(%q)", l), commit.Commit(v, l), plainCommit(w, l)
	case 4, 5, 6:
		return "Recover()", commit.Recover(v), plainRecover(w)
	case 7, 8:
		n := d.of(14)
		v.Stop(n)
		w.Stop(n)
		return fmt.Sprintf("Stop(%d)", n), 0, 0
	case 9, 10, 11:
		keep := d.keep()
		v.Crash(keep)
		w.Crash(keep)
		return fmt.Sprintf("Crash(%v)", keep), 0, 0
	case 12:
		name, b := d.name(0), []byte(d.text(12))
		return fmt.Sprintf("Write(%q, %q)", name, b), v.Write(name, b), w.Write(name, b)
	case 13:
		b := []byte(d.oddJournal())
		return fmt.Sprintf("journal(%q)", b), v.Write("journal", b), w.Write("journal", b)
	case 14:
		return "mark", v.Write("mark", nil), w.Write("mark", nil)
	}
	name := []string{"journal", "mark", d.name(0)}[d.of(3)]
	return fmt.Sprintf("Remove(%q)", name), v.Remove(name), w.Remove(name)
}

// P1601, P1602: whatever is done, in whatever order, all that may be asked is as the chapter has it.
func TestThrown(t *testing.T) {
	d := &die{161}
	errors := map[api.Errno]int{}
	for range 6000 {
		room := d.of(120)
		v, w := vfs.New(room), vfs.New(room)
		done := ""
		for range 40 {
			what, got, want := d.thrown(v, w)
			done += what + "\n"
			errors[got]++
			if got != want || told(v) != told(w) {
				t.Fatalf("P1601, P1602: New(%d)\n%s%v, not %v: %s\nnot %s", room, done, got, want, told(v), told(w))
			}
		}
	}
	for _, e := range []api.Errno{api.OK, api.ErrArg, api.ErrName, api.ErrTwice, api.ErrDead, api.ErrFull, api.ErrBad} {
		if errors[e] < 1000 {
			t.Errorf("the test's own: %v: %d times", e, errors[e])
		}
	}
}
