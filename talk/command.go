package talk

import (
	"slices"
	"strings"

	"post/addr"
	"post/api"
	"post/ascii"
)

const (
	mostCommand = 510
	mostTo      = 5
)

// command is what is done at a command's word: rest is what stands behind the blank, if there is one.
type command func(t *Talk, rest string, blank bool) (reply, state)

func commands() map[string]command {
	return map[string]command{
		"helo": (*Talk).hello,
		"ehlo": (*Talk).hello,
		"noop": (*Talk).nothing,
		"vrfy": (*Talk).verify,
		"rset": (*Talk).reset,
		"quit": (*Talk).quit,
		"mail": (*Talk).from,
		"rcpt": (*Talk).to,
		"data": (*Talk).data,
	}
}

func (t *Talk) onCommand(l api.Line) (reply, state) {
	if l.Bad != 0 || len(l.Text) > mostCommand {
		return what, (*Talk).onCommand
	}
	word, rest, blank := strings.Cut(l.Text, " ")
	do, ok := t.commands[ascii.Lower(word)]
	if !ok {
		return what, (*Talk).onCommand
	}
	return do(t, rest, blank)
}

func (t *Talk) hello(rest string, _ bool) (reply, state) {
	if rest == "" {
		return how, (*Talk).onCommand
	}
	t.known, t.mail = true, nil
	return fine, (*Talk).onCommand
}

func (t *Talk) nothing(string, bool) (reply, state) {
	return fine, (*Talk).onCommand
}

func (t *Talk) verify(string, bool) (reply, state) {
	return perhaps, (*Talk).onCommand
}

func (t *Talk) reset(_ string, blank bool) (reply, state) {
	if blank {
		return how, (*Talk).onCommand
	}
	t.mail = nil
	return fine, (*Talk).onCommand
}

func (t *Talk) quit(_ string, blank bool) (reply, state) {
	if blank {
		return how, (*Talk).onCommand
	}
	return bye, nil
}

func (t *Talk) from(rest string, _ bool) (reply, state) {
	if !t.known || t.mail != nil {
		return when, (*Talk).onCommand
	}
	text, ok := between("from:<", rest)
	from, e, _ := addr.Parse(text)
	if !ok || text != "" && e != api.OK { // of an empty text Parse makes the empty address, and that is nobody's
		return how, (*Talk).onCommand
	}
	t.mail = &draft{from: from}
	return fine, (*Talk).onCommand
}

func (t *Talk) to(rest string, _ bool) (reply, state) {
	if t.mail == nil {
		return when, (*Talk).onCommand
	}
	text, ok := between("to:<", rest)
	to, e, _ := addr.Parse(text)
	if !ok || e != api.OK {
		return how, (*Talk).onCommand
	}
	return t.addTo(to), (*Talk).onCommand
}

func (t *Talk) addTo(to api.Address) reply {
	if _, ok := t.users[to.Local]; to.Domain == t.name && !ok {
		return who
	}
	if slices.Contains(t.mail.to, to) {
		return fine
	}
	if len(t.mail.to) == mostTo {
		return enough
	}
	t.mail.to = append(t.mail.to, to)
	return fine
}

func (t *Talk) data(_ string, blank bool) (reply, state) {
	if blank {
		return how, (*Talk).onCommand
	}
	if t.mail == nil || len(t.mail.to) == 0 {
		return when, (*Talk).onCommand
	}
	return goOn, (*Talk).onData
}

// between tells what stands in s between the opening, in whichever case, and a ">" at its end.
func between(opening string, s string) (string, bool) {
	if len(s) < len(opening) || ascii.Lower(s[:len(opening)]) != opening {
		return "", false
	}
	return strings.CutSuffix(s[len(opening):], ">")
}
