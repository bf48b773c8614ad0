package vfs_test

import (
	"cmp"
	"fmt"
	"slices"
	"testing"

	"cadence/api"
	"cadence/vfs"
)

// one is a file that is written, or, gone, removed.
type one struct {
	name, text string
	gone       bool
}

// plain is what the chapter says of files, anew: it keeps what was flushed, and all that was done since, as lists in order, and works out all that it is asked from these, each time.
type plain struct {
	room, ops, stop int
	dead            bool
	flushed, since  []one
}

func newPlain(room int) *plain {
	switch {
	case room < 0:
		return &plain{}
	case room > 1048576:
		return &plain{room: 1048576}
	}
	return &plain{room: room}
}

// with is l when x was done.
func with(l []one, x one) []one {
	var more []one
	for _, y := range l {
		if y.name != x.name {
			more = append(more, y)
		}
	}
	if !x.gone {
		more = append(more, x)
	}
	slices.SortFunc(more, func(a, b one) int { return cmp.Compare(a.name, b.name) })
	return more
}

// files are all, as they are now.
func (p *plain) files() []one {
	l := p.flushed
	for _, x := range p.since {
		l = with(l, x)
	}
	return l
}

func size(l []one) int {
	n := 0
	for _, x := range l {
		n += len(x.text)
	}
	return n
}

func (p *plain) read(name string) (string, bool, api.Errno) {
	if p.dead {
		return "", false, api.ErrDead
	}
	for _, x := range p.files() {
		if x.name == name {
			return x.text, true, api.OK
		}
	}
	return "", false, api.OK
}

// power tells whether what is done now answers OK; it does not, if it is the one at which the power goes.
func (p *plain) power() api.Errno {
	p.ops++
	if p.stop == 1 {
		p.dead = true
		return api.ErrDead
	}
	if p.stop > 1 {
		p.stop--
	}
	return api.OK
}

func (p *plain) write(name, text string) api.Errno {
	if p.dead {
		return api.ErrDead
	}
	if len(name) == 0 || len(name) > 20 {
		return api.ErrName
	}
	x := one{name: name, text: text}
	if size(with(p.files(), x)) > p.room {
		return api.ErrFull
	}
	p.since = append(p.since, x)
	return p.power()
}

func (p *plain) remove(name string) api.Errno {
	_, is, e := p.read(name)
	if e != api.OK {
		return e
	}
	if !is {
		return api.ErrNone
	}
	p.since = append(p.since, one{name: name, gone: true})
	return p.power()
}

func (p *plain) flush() api.Errno {
	if p.dead {
		return api.ErrDead
	}
	e := p.power()
	if e == api.OK {
		p.flushed, p.since = p.files(), nil
	}
	return e
}

func (p *plain) crash(keep []int) {
	for i, x := range p.since {
		switch {
		case i >= len(keep) || keep[i] != 1 && keep[i] != 2:
			continue
		case keep[i] == 2:
			x.text = x.text[:len(x.text)/2]
		}
		p.flushed = with(p.flushed, x)
	}
	p.since, p.dead, p.stop = nil, false, 0
}

// told is as told of the files themselves.
func (p *plain) told() string {
	l := p.files()
	s := fmt.Sprintf("%d of %d, %d, %t:", size(l), p.room, p.ops, p.dead)
	for _, x := range l {
		text, is, e := p.read(x.name)
		s += fmt.Sprintf(" %q=%q %t %v", x.name, text, is, e)
	}
	return s
}

// thrown does one thing to both, and tells what it was, and whether both answered alike.
func (d *die) thrown(v *vfs.Vfs, p *plain) (string, bool) {
	name, b, keep, n := d.name(), d.bytes(9), d.keep(), d.of(9)-2
	switch d.of(12) {
	case 0, 1, 2, 3:
		return fmt.Sprintf("Write(%q, %q)", name, b), v.Write(name, b) == p.write(name, string(b))
	case 4, 5:
		return fmt.Sprintf("Remove(%q)", name), v.Remove(name) == p.remove(name)
	case 6, 7:
		return "Flush()", v.Flush() == p.flush()
	case 8:
		v.Stop(n)
		p.stop = n
		return fmt.Sprintf("Stop(%d)", n), true
	case 9, 10:
		b, is, e := v.Read(name)
		text, was, f := p.read(name)
		return fmt.Sprintf("Read(%q)", name), string(b) == text && is == was && e == f
	}
	v.Crash(keep)
	p.crash(keep)
	return fmt.Sprintf("Crash(%v)", keep), true
}

// P1501, P1502: whatever is done, in whatever order, all that may be asked is as the chapter has it.
func TestThrown(t *testing.T) {
	d := &die{151}
	for range 4000 {
		room := d.of(40)
		v, p := vfs.New(room), newPlain(room)
		done := ""
		for range 60 {
			what, same := d.thrown(v, p)
			done += what + "\n"
			if got, want := told(v), p.told(); got != want || !same {
				t.Fatalf("P1501, P1502: New(%d)\n%s%s\nnot %s (%t)", room, done, got, want, same)
			}
		}
	}
}
