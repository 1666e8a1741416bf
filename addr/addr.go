// Package addr reads addresses: see doc/01-addr.md.
package addr

import (
	"strings"

	"post/api"
)

const (
	mostText   = 300
	mostLocal  = 64
	mostLabel  = 63
	mostDomain = 200
)

// Parse tells an address (A2).
func Parse(s string) (api.Address, api.Errno, int) {
	if len(s) > mostText {
		return api.Address{}, api.ErrLong, 0
	}
	c := &cursor{text: s}
	local, ok := c.local()
	if !ok || !c.skip('@') {
		return api.Address{}, api.ErrForm, c.at
	}
	domain, longest, ok := c.domain()
	if !ok || !c.ended() {
		return api.Address{}, api.ErrForm, c.at
	}
	if len(local) > mostLocal || longest > mostLabel || len(domain) > mostDomain {
		return api.Address{}, api.ErrRange, 0
	}
	return api.Address{Local: local, Domain: domain}, api.OK, 0
}

// Print writes an address (A3).
func Print(a api.Address) (string, bool) {
	// Parts beyond their bounds are refused here, so that no long text is made of them in vain.
	if len(a.Local) > mostLocal || len(a.Domain) > mostDomain {
		return "", false
	}
	// There is no shorter text for a than this one, so if Parse does not read it as a, it reads none.
	text := localText(a.Local) + "@" + a.Domain
	back, e, _ := Parse(text)
	if e != api.OK || back != a {
		return "", false
	}
	return text, true
}

func localText(local string) string {
	c := &cursor{text: local}
	if c.atoms() && c.ended() {
		return local
	}
	return quoted(local)
}

func quoted(local string) string {
	var b strings.Builder
	b.WriteByte('"')
	for i := range len(local) {
		if local[i] == '"' || local[i] == '\\' {
			b.WriteByte('\\')
		}
		b.WriteByte(local[i])
	}
	b.WriteByte('"')
	return b.String()
}
