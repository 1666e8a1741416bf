// Package talk lets mails come in: see doc/03-talk.md.
package talk

import (
	"strings"

	"post/api"
	"post/ascii"
	"post/wire"
)

const mostLine = 1000

// state is what is done with the next line: it answers that line, and tells what is done with the one behind it; nil, if none is read any more.
type state func(*Talk, api.Line) (reply, state)

// Talk is one with somebody who sends. Make it by New.
type Talk struct {
	name     string
	users    map[string]struct{}
	commands map[string]command
	reader   *wire.Reader
	lines    []api.Line // those that have come, but have not been read on to
	next     state
	waits    bool // a mail was full, and nobody has told yet whether it is stored
	known    bool // who speaks
	mail     *draft
}

// New makes a talk (D1).
func New(name string, users []string) *Talk {
	t := &Talk{
		name:     ascii.Lower(name),
		users:    make(map[string]struct{}),
		commands: commands(),
		reader:   wire.New(mostLine),
		next:     (*Talk).onCommand,
	}
	for _, user := range users {
		t.users[user] = struct{}{}
	}
	return t
}

// Greet is the first reply (D1).
func (t *Talk) Greet() string {
	return "220 " + t.name + "\r\n"
}

// Feed takes what comes next (D2).
func (t *Talk) Feed(s string) (string, api.Mail, bool) {
	if t.next == nil {
		return "", api.Mail{}, false
	}
	t.lines = append(t.lines, t.reader.Feed(s)...)
	if t.waits {
		return "", api.Mail{}, false
	}
	return t.readOn()
}

// Stored tells whether the mail that waits was stored (D2).
func (t *Talk) Stored(ok bool) (string, api.Mail, bool) {
	if !t.waits {
		return "", api.Mail{}, false
	}
	t.waits = false
	first := later
	if ok {
		first = fine
	}
	behind, m, full := t.readOn()
	return replies[first] + behind, m, full
}

// readOn answers line by line, up to one at which a mail is full.
func (t *Talk) readOn() (string, api.Mail, bool) {
	var told strings.Builder
	for len(t.lines) > 0 && t.next != nil {
		l := t.lines[0]
		t.lines = t.lines[1:]
		var r reply
		r, t.next = t.next(t, l)
		told.WriteString(replies[r])
		if t.waits {
			return told.String(), t.handOver(), true
		}
	}
	t.lines = nil
	return told.String(), api.Mail{}, false
}

func (t *Talk) handOver() api.Mail {
	m := api.Mail{From: t.mail.from, To: t.mail.to, Data: wire.Plain(t.mail.lines)}
	t.mail = nil
	return m
}
