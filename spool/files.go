package spool

import (
	"strconv"
	"strings"

	"post/api"
)

// The names of the spool's files; behind the last two stands a number.
const (
	fresh  = "spool/new" // a mail that is being written
	mailNo = "spool/mail/"
	lastNo = "spool/last/"
)

// write is a call that writes to the disk, with all that it is handed.
type write func() api.Errno

// do makes writes, up to the first one that is refused: behind that the spool makes none any more.
func (s *Spool) do(writes ...write) api.Errno {
	for _, w := range writes {
		if s.dead {
			break
		}
		s.dead = w() != api.OK
	}
	if s.dead {
		return api.ErrDead
	}
	return api.OK
}

// one makes a write of a call that is handed one text.
func one(call func(string) api.Errno, name string) write {
	return func() api.Errno { return call(name) }
}

// two makes a write of a call that is handed two texts.
func two(call func(string, string) api.Errno, name string, other string) write {
	return func() api.Errno { return call(name, other) }
}

// find reads what is on the disk, and tells the writes that make the files as they have to be.
func (s *Spool) find() []write {
	var writes []write
	d, counted := s.disk, false
	for _, name := range d.Names() {
		if name == fresh {
			writes = append(writes, one(d.Remove, name))
		} else if n, ok := numberOf(name, lastNo); ok {
			s.last, counted = n, true
		} else if n, ok := numberOf(name, mailNo); ok {
			bytes, _ := d.Read(name)
			s.waits[n] = stillLeft(bytes)
			writes = append(writes, one(d.Sync, name))
		}
	}
	if !counted {
		writes = append(writes, one(d.Create, numbered(lastNo, s.last)))
	}
	return writes
}

func numbered(kind string, n int) string {
	return kind + strconv.Itoa(n)
}

// numberOf tells the number of a file of that kind.
func numberOf(name string, kind string) (int, bool) {
	digits, ok := strings.CutPrefix(name, kind)
	n, err := strconv.Atoi(digits)
	return n, ok && err == nil
}
