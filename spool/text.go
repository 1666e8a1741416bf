package spool

import (
	"strconv"
	"strings"

	"post/api"
)

// text is what of a file is still to be read: words, each with its length and a colon ahead of it.
type text string

// words makes a text of words.
func words(list ...string) string {
	var b strings.Builder
	for _, w := range list {
		b.WriteString(strconv.Itoa(len(w)))
		b.WriteByte(':')
		b.WriteString(w)
	}
	return b.String()
}

// written makes the text of a mail: those that it goes to are one word, made of words.
func written(m api.Mail) string {
	var to []string
	for _, a := range m.To {
		to = append(to, a.Local, a.Domain)
	}
	return words(m.From.Local, m.From.Domain, words(to...), m.Data)
}

// word takes the next word off.
func (t *text) word() string {
	size, rest, _ := strings.Cut(string(*t), ":")
	n, _ := strconv.Atoi(size)
	n = max(0, min(n, len(rest)))
	*t = text(rest[n:])
	return rest[:n]
}

// address takes two words off.
func (t *text) address() api.Address {
	local := t.word()
	return api.Address{Local: local, Domain: t.word()}
}

// mail takes a mail off; behind it stand the marks.
func (t *text) mail() api.Mail {
	m := api.Mail{From: t.address()}
	for to := text(t.word()); to != ""; {
		m.To = append(m.To, to.address())
	}
	m.Data = t.word()
	return m
}
