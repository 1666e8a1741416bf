// Package post takes mails in, and brings them where they go: see doc/08-post.md.
//
// A mail is in the spool till all that it goes to are done. It is done only
// behind its coming there: if the disk stops between the two, it comes there
// again, and is still one letter of a box, for it has the same key.
package post

import (
	"slices"
	"strings"

	"post/api"
	"post/box"
	"post/disk"
	"post/talk"
)

const lastTime = 1000000000000

// Post is one on a disk. Open makes it.
type Post struct {
	mails *queue
	name  string
	users []string
	talks []*talk.Talk // by their numbers
}

// Open makes a post of what is on a disk (K1).
func Open(d *disk.Disk, name string, users []string) (*Post, api.Errno) {
	q, e := openQueue(d)
	if e != api.OK {
		return nil, e
	}
	return &Post{mails: q, name: name, users: slices.Clone(users)}, api.OK
}

// Talk begins a talk (K2).
func (p *Post) Talk() (int, string) {
	t := talk.New(p.name, p.users)
	p.talks = append(p.talks, t)
	return len(p.talks) - 1, t.Greet()
}

// Say takes what comes next of a talk (K2).
func (p *Post) Say(talk int, s string) (string, api.Errno) {
	if talk < 0 || talk >= len(p.talks) {
		return "", api.ErrNone
	}
	t := p.talks[talk]
	var told strings.Builder
	replies, m, full := t.Feed(s)
	for full {
		told.WriteString(replies)
		_, stored := p.mails.store(m)
		replies, m, full = t.Stored(stored)
	}
	told.WriteString(replies)
	return told.String(), api.OK
}

// Run brings mails where they go, once (K3).
func (p *Post) Run(now int, fates []api.Fate) []api.Sent {
	if p.mails.dead || now < 0 || now > lastTime {
		return nil
	}
	r := &round{queue: p.mails, name: p.name, now: now, fates: fates, ids: p.mails.List()}
	r.run()
	return r.sent
}

// Waiting tells which mails wait (K1).
func (p *Post) Waiting() []int {
	return p.mails.List()
}

// Box tells what has come to a user (K1).
func (p *Post) Box(user string) []api.Letter {
	return box.Letters(p.mails.disk, user)
}
