package talk

import (
	"post/api"
	"post/wire"
)

const (
	mostData = 2000
	lastLine = "."
)

// draft is the mail at hand.
type draft struct {
	from  api.Address
	to    []api.Address
	lines []string // of its data; none, once it is known that these are refused
	size  int      // how many bytes Plain makes of all lines
	bad   bool     // one of them was
}

func (t *Talk) onData(l api.Line) (reply, state) {
	if l.Text != lastLine {
		t.mail.add(l)
		return none, (*Talk).onData
	}
	r := t.mail.fault()
	if r == none {
		t.waits = true
	} else {
		t.mail = nil
	}
	return r, (*Talk).onCommand
}

func (d *draft) add(l api.Line) {
	d.bad = d.bad || l.Bad != 0
	d.size += len(wire.Plain([]string{l.Text}))
	if d.fault() != none {
		d.lines = nil
		return
	}
	d.lines = append(d.lines, l.Text)
}

func (d *draft) fault() reply {
	if d.bad {
		return bad
	}
	if d.size > mostData {
		return much
	}
	return none
}
