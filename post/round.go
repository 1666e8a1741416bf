package post

import (
	"strconv"
	"strings"

	"post/api"
	"post/box"
	"post/send"
)

const keyDigits = 12

// What is done in a round about one who is left. The first three are the Kinds of api.Fate.
const (
	taken  = iota
	later  // it was tried, and will be again
	never  // the sender is told
	here   // it comes to a box of this host
	passed // it is not its time yet
)

// round is one Run.
type round struct {
	*queue
	name  string
	now   int
	fates []api.Fate
	ids   []int // of the mails to go through, also of those that come meanwhile
	sent  []api.Sent
}

// run goes through all mails, up to a stop of the disk.
func (r *round) run() {
	for i := 0; i < len(r.ids); i++ {
		for _, to := range r.Left(r.ids[i]) {
			r.treat(goal{r.ids[i], to})
			if r.dead {
				return
			}
		}
	}
}

// treat does what is to be done about one who is left.
func (r *round) treat(g goal) {
	switch r.fate(g) {
	case taken:
		r.take(g)
	case later:
		r.tried[g] = tries{r.tried[g].times + 1, r.now}
	case never:
		r.bounce(g)
	case here:
		r.deliver(g)
	}
}

// fate tells what is done about one who is left.
func (r *round) fate(g goal) int {
	if t := r.tried[g]; t.times > 0 {
		next, ok := send.Next(t.times, t.last)
		if !ok {
			return never
		}
		if r.now < next {
			return passed
		}
	}
	if send.Here(r.name, g.to) {
		return here
	}
	return send.Fate(r.fates, g.to.Domain)
}

// take tells what was taken, also if the disk stops ahead of its being done: another domain has it.
func (r *round) take(g goal) {
	m, _ := r.Mail(g.id)
	r.sent = append(r.sent, api.Sent{ID: g.id, To: g.to, Mail: m})
	r.finish(g)
}

// bounce lets the sender know. A mail from nobody ends without that.
func (r *round) bounce(g goal) {
	m, _ := r.Mail(g.id)
	if b, ok := send.Bounce(m, g.to); ok {
		id, stored := r.store(b)
		if !stored {
			return
		}
		r.ids = append(r.ids, id)
	}
	r.finish(g)
}

// deliver lays the letter into its box.
func (r *round) deliver(g goal) {
	m, _ := r.Mail(g.id)
	if r.runs(box.Deliver(r.disk, g.to.Local, key(g.id), m.Data)) {
		r.finish(g)
	}
}

// key tells the key of a mail's letters: numbers that rise have keys that rise.
func key(id int) string {
	digits := strconv.Itoa(id)
	return strings.Repeat("0", max(0, keyDigits-len(digits))) + digits
}
