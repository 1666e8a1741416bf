package wire

import (
	"strings"

	"post/api"
)

// What stands in api.Line's Bad.
const (
	right = iota
	stray
	tooLong
)

// line is what is known of the line at hand.
type line struct {
	text strings.Builder // empty, if the line is too long
	size int             // how many bytes are the line's, whatever comes
	cr   bool            // a CR stands behind these: the next byte tells whose it is
}

func (l *line) endsAt(c byte) bool {
	return l.cr && c == '\n'
}

// take is for a byte at which the line does not end.
func (l *line) take(c byte, most int) {
	if l.cr {
		l.keep('\r', most)
	}
	l.cr = c == '\r'
	if !l.cr {
		l.keep(c, most)
	}
}

func (l *line) keep(c byte, most int) {
	l.size++
	if l.size > most {
		l.text.Reset() // nobody will ask for it
		return
	}
	l.text.WriteByte(c)
}

func (l *line) told(most int) api.Line {
	if l.size > most {
		return api.Line{Bad: tooLong}
	}
	text := l.text.String()
	if strings.ContainsAny(text, lineEnd) {
		return api.Line{Text: text, Bad: stray}
	}
	return api.Line{Text: text, Bad: right}
}

func (l *line) bytes() int {
	if l.cr {
		return l.size + 1
	}
	return l.size
}
