// Package wire reads lines of a stream: see doc/02-wire.md.
package wire

import (
	"strings"

	"post/api"
)

const (
	lineEnd = "\r\n"
	dot     = "."
	topMost = 100000
)

// Reader reads lines. Make it by New.
type Reader struct {
	most int
	*line
}

// New makes a reader (B1).
func New(most int) *Reader {
	if most < 1 || most > topMost {
		return nil
	}
	return &Reader{most: most, line: new(line)}
}

// Feed takes what comes next, and tells the lines that end in it (B2).
func (r *Reader) Feed(s string) []api.Line {
	if r == nil || r.line == nil { // not made by New, or refused by it
		return nil
	}
	var ended []api.Line
	for i := range len(s) {
		if r.endsAt(s[i]) {
			ended = append(ended, r.told(r.most))
			r.line = new(line)
		} else {
			r.take(s[i], r.most)
		}
	}
	return ended
}

// Rest tells how many bytes belong to no line yet (B2).
func (r *Reader) Rest() int {
	if r == nil || r.line == nil { // not made by New, or refused by it
		return 0
	}
	return r.bytes()
}

// Stuff makes data ready to be sent (B3).
func Stuff(data string) string {
	var b strings.Builder
	for data != "" {
		piece, rest, _ := strings.Cut(data, lineEnd)
		if strings.HasPrefix(piece, dot) {
			b.WriteString(dot)
		}
		b.WriteString(piece)
		b.WriteString(lineEnd)
		data = rest
	}
	b.WriteString(dot)
	b.WriteString(lineEnd)
	return b.String()
}

// Plain makes data of lines (B3).
func Plain(l []string) string {
	var b strings.Builder
	for _, text := range l {
		b.WriteString(strings.TrimPrefix(text, dot))
		b.WriteString(lineEnd)
	}
	return b.String()
}
