// Package send tells when mails are tried again: see doc/07-send.md.
package send

import (
	"post/addr"
	"post/api"
	"post/ascii"
)

const (
	firstWait = 60 // seconds
	mostWait  = 3600
	mostTries = 8
	lastTime  = 1000000000000
	mostData  = 1000 // bytes of a mail that a bounce tells
)

// The Kinds of fates.
const (
	taken = iota
	later
	never
)

// Next tells when a mail is tried again (J1).
func Next(tries int, last int) (int, bool) {
	if tries < 1 || tries >= mostTries || last < 0 || last > lastTime {
		return 0, false
	}
	return last + min(firstWait<<(tries-1), mostWait), true
}

// Here tells whether an address is of a host (J2).
func Here(name string, a api.Address) bool {
	return ascii.Same(name, a.Domain)
}

// Fate tells what a domain does (J2).
func Fate(l []api.Fate, domain string) int {
	for _, f := range l {
		if ascii.Same(f.Domain, domain) {
			return known(f.Kind)
		}
	}
	return later
}

func known(kind int) int {
	if kind < taken || kind > never {
		return later
	}
	return kind
}

// Bounce makes the mail that tells that one did not come (J3).
func Bounce(m api.Mail, to api.Address) (api.Mail, bool) {
	if m.From == (api.Address{}) {
		return api.Mail{}, false
	}
	data := "To: " + bracketed(m.From) + "\r\n" +
		"Subject: not delivered\r\n" +
		"\r\n" +
		bracketed(to) + " could not be reached.\r\n"
	if len(m.Data) <= mostData {
		data += "\r\n" + m.Data
	}
	return api.Mail{To: []api.Address{m.From}, Data: data}, true
}

// bracketed tells the text of an address, also of one that addr has no text of: a bounce has to name it all the same.
func bracketed(a api.Address) string {
	text, ok := addr.Print(a)
	if !ok {
		text = a.Local + "@" + a.Domain
	}
	return "<" + text + ">"
}
