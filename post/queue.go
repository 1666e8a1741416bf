package post

import (
	"post/api"
	"post/disk"
	"post/spool"
)

// goal is one of those that a mail goes to.
type goal struct {
	id int // the mail's number
	to api.Address
}

// tries is how often a goal was tried, and when last.
type tries struct {
	times int
	last  int
}

// queue is mails that wait, and how they were tried.
type queue struct {
	*spool.Spool
	disk  *disk.Disk
	tried map[goal]tries // of those alone that are left
	dead  bool           // the disk has stopped: what the spool tells is not said any more
}

func openQueue(d *disk.Disk) (*queue, api.Errno) {
	s, e := spool.Open(d)
	if e != api.OK {
		return nil, e
	}
	return &queue{Spool: s, disk: d, tried: make(map[goal]tries)}, api.OK
}

// runs takes what a call has answered that writes, and tells whether the disk still runs.
func (q *queue) runs(e api.Errno) bool {
	q.dead = e != api.OK
	return !q.dead
}

// store lets a mail wait, and tells its number.
func (q *queue) store(m api.Mail) (int, bool) {
	if q.dead {
		return 0, false
	}
	n, e := q.Put(m)
	return n, q.runs(e)
}

// finish takes away one who is done.
func (q *queue) finish(g goal) {
	if q.runs(q.Done(g.id, g.to)) {
		delete(q.tried, g)
	}
}
