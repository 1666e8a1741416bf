// Package spool keeps mails that wait: see doc/05-spool.md.
//
// Each mail is a file. It is written under another name, and has its own only
// when its bytes are safe: so what has the name of a mail is whole. One more
// file has no bytes: its name tells the last number, also if that mail is gone.
package spool

import (
	"maps"
	"slices"

	"post/api"
	"post/disk"
)

// Spool is mails that wait. Open makes it.
type Spool struct {
	disk  *disk.Disk
	last  int          // the highest number so far
	waits map[int]left // by numbers
	dead  bool         // a write was refused
}

// Open makes a spool of what is on a disk (F1).
func Open(d *disk.Disk) (*Spool, api.Errno) {
	s := &Spool{disk: d, waits: make(map[int]left)}
	// What is there may be so only till the next crash: it is made safe ahead of being told.
	if e := s.do(append(s.find(), d.SyncDir)...); e != api.OK {
		return nil, e
	}
	return s, api.OK
}

// Put lets a mail wait (F2).
func (s *Spool) Put(m api.Mail) (int, api.Errno) {
	if len(m.To) == 0 {
		return 0, api.ErrForm
	}
	d, n := s.disk, s.last+1
	// The number is used up ahead of the mail's coming: so no mail that is found has one above the last.
	e := s.do(
		one(d.Create, fresh),
		two(d.Append, fresh, written(m)),
		one(d.Sync, fresh),
		two(d.Rename, numbered(lastNo, s.last), numbered(lastNo, n)),
		two(d.Rename, fresh, numbered(mailNo, n)),
		d.SyncDir,
	)
	if e != api.OK {
		return 0, e
	}
	s.last = n
	s.waits[n] = all(m.To)
	return n, api.OK
}

// Done tells that a mail has come to somebody (F2).
func (s *Spool) Done(id int, to api.Address) api.Errno {
	if s.dead {
		return api.ErrDead
	}
	place, ok := s.waits[id][to]
	if !ok {
		return api.ErrNone
	}
	if len(s.waits[id]) == 1 {
		return s.drop(id)
	}
	d, name := s.disk, numbered(mailNo, id)
	e := s.do(two(d.Append, name, mark(place)), one(d.Sync, name))
	if e == api.OK {
		delete(s.waits[id], to)
	}
	return e
}

// drop takes a mail away of which nobody is left any more.
func (s *Spool) drop(id int) api.Errno {
	d := s.disk
	e := s.do(one(d.Remove, numbered(mailNo, id)), d.SyncDir)
	if e == api.OK {
		delete(s.waits, id)
	}
	return e
}

// List tells which mails wait (F3).
func (s *Spool) List() []int {
	return slices.Sorted(maps.Keys(s.waits))
}

// Mail tells a mail that waits (F3).
func (s *Spool) Mail(id int) (api.Mail, bool) {
	if _, ok := s.waits[id]; !ok {
		return api.Mail{}, false
	}
	bytes, _ := s.disk.Read(numbered(mailNo, id))
	t := text(bytes)
	return t.mail(), true
}

// Left tells who has not got a mail yet (F3).
func (s *Spool) Left(id int) []api.Address {
	return s.waits[id].list()
}
