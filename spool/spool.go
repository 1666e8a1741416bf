// Package spool keeps mails that wait: see doc/05-spool.md.
// So far it has its face alone: every call answers zero values.
package spool

import (
	"post/api"
	"post/disk"
)

// Spool is mails that wait. Open makes it.
type Spool struct{}

// Open makes a spool of what is on a disk (F1).
func Open(d *disk.Disk) (*Spool, api.Errno) { return nil, api.OK }

// Put lets a mail wait (F2).
func (s *Spool) Put(m api.Mail) (int, api.Errno) { return 0, api.OK }

// Done tells that a mail has come to somebody (F2).
func (s *Spool) Done(id int, to api.Address) api.Errno { return api.OK }

// List tells which mails wait (F3).
func (s *Spool) List() []int { return nil }

// Mail tells a mail that waits (F3).
func (s *Spool) Mail(id int) (api.Mail, bool) { return api.Mail{}, false }

// Left tells who has not got a mail yet (F3).
func (s *Spool) Left(id int) []api.Address { return nil }
