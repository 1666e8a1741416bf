package addr

import (
	"strings"

	"post/ascii"
)

// cursor goes through a text from the left. A method that answers false leaves it at the byte that cannot stand there, or at the text's end.
type cursor struct {
	text string
	at   int
}

func (c *cursor) ended() bool {
	return c.at == len(c.text)
}

func (c *cursor) sees(m mark) bool {
	return !c.ended() && has(c.text[c.at], m)
}

func (c *cursor) skip(sign byte) bool {
	if c.ended() || c.text[c.at] != sign {
		return false
	}
	c.at++
	return true
}

func (c *cursor) skipAll(m mark) {
	for c.sees(m) {
		c.at++
	}
}

func (c *cursor) local() (string, bool) {
	if c.skip('"') {
		return c.chars()
	}
	if !c.atoms() {
		return "", false
	}
	return strings.Clone(c.text[:c.at]), true
}

func (c *cursor) atoms() bool {
	for {
		if !c.sees(inAtom) {
			return false
		}
		c.skipAll(inAtom)
		if !c.skip('.') {
			return true
		}
	}
}

// chars reads on behind the first quote, up to behind the last one.
func (c *cursor) chars() (string, bool) {
	var b strings.Builder
	for !c.skip('"') {
		wanted := inQuotes
		if c.skip('\\') {
			wanted = behindSlash
		}
		if !c.sees(wanted) {
			return "", false
		}
		b.WriteByte(c.text[c.at])
		c.at++
	}
	return b.String(), true
}

// domain tells the domain in small letters, and how long its longest label is.
func (c *cursor) domain() (string, int, bool) {
	start, longest := c.at, 0
	for {
		size, ok := c.label()
		if !ok {
			return "", 0, false
		}
		longest = max(longest, size)
		if !c.skip('.') {
			return ascii.Lower(c.text[start:c.at]), longest, true
		}
	}
}

func (c *cursor) label() (int, bool) {
	if !c.sees(atEdge) {
		return 0, false
	}
	start := c.at
	c.skipAll(inLabel)
	// A sign behind the last "-" could mend the label: the place of the fault is behind it.
	return c.at - start, has(c.text[c.at-1], atEdge)
}
