package post

import (
	"fmt"
	"math"
	"math/rand"
	"reflect"
	"slices"
	"strings"
	"testing"

	"post/api"
	"post/disk"
	"post/disktest"
)

// seen is a mail that was told to a post, and what has become of it.
type seen struct {
	mail  api.Mail
	sure  bool                // it was answered by 250
	taken map[api.Address]int // how often it was told to be taken
	told  map[api.Address]int // how often the sender got to know that it did not come
}

// watch asks posts of a disk, and keeps what has to come. Each mail has data of its own.
type watch struct {
	t     *testing.T
	disk  *disk.Disk
	post  *Post
	mails map[string]*seen // by data
	name  string           // of what is tried
}

func newWatch(t *testing.T, name string) *watch {
	w := &watch{t: t, disk: disk.New(), mails: make(map[string]*seen), name: name}
	w.mustOpen()
	return w
}

func (w *watch) fail(promise string, told ...any) {
	w.t.Helper()
	w.t.Fatalf("%s: %s: %.900s", promise, w.name, fmt.Sprintln(told...))
}

func (w *watch) open() api.Errno {
	w.t.Helper()
	p, e := Open(w.disk, "here", []string{"ann", "bob"})
	if e == api.OK {
		w.post = p
	} else if e != api.ErrDead || p != nil {
		w.fail("K1", "Open answered", e)
	}
	return e
}

func (w *watch) mustOpen() {
	w.t.Helper()
	if e := w.open(); e != api.OK {
		w.fail("K1", "Open answered", e)
	}
}

// say tells mails by one Say, and tells how many of them were stored.
func (w *watch) say(mails ...api.Mail) int {
	w.t.Helper()
	n, _ := w.post.Talk()
	s, wants := "HELO x\r\n", []string{ok}
	for _, m := range mails {
		var to []string
		for _, a := range m.To {
			to = append(to, a.Local+"@"+a.Domain)
		}
		from := strings.TrimPrefix(m.From.Local+"@"+m.From.Domain, "@")
		text, want := spoken(from, m.Data, to...)
		s += text
		wants[len(wants)-1] += want
		wants = append(wants, "")
	}
	got, e := w.post.Say(n, s)
	stored := 0
	for i, want := range wants {
		rest, fine := strings.CutPrefix(got, want)
		if !fine || e != api.OK {
			w.fail("K2", "Say answered", got, e, "want", want)
		}
		if i < len(mails) {
			behind, sure := strings.CutPrefix(rest, ok)
			if !sure {
				behind = strings.TrimPrefix(rest, notNow)
			} else {
				stored++
			}
			w.mails[mails[i].Data] = &seen{mails[i], sure, make(map[api.Address]int), make(map[api.Address]int)}
			got = behind
		}
	}
	return stored
}

// bounce finds the mail and the address that a bounce tells of.
func (w *watch) bounce(sender api.Address, data string) (*seen, api.Address) {
	for _, s := range w.mails {
		for _, to := range s.mail.To {
			if s.mail.From == sender && sender != (api.Address{}) && data == tells(sender.Local+"@"+sender.Domain, to.Local+"@"+to.Domain, s.mail.Data) {
				return s, to
			}
		}
	}
	return nil, api.Address{}
}

// run makes a round, and notes what was taken.
func (w *watch) run(now int, fates []api.Fate) []api.Sent {
	w.t.Helper()
	l := w.post.Run(now, fates)
	for _, sent := range l {
		if !slices.Contains(fates, api.Fate{Domain: sent.To.Domain, Kind: 0}) || sent.ID < 1 {
			w.fail("K3", "taken though the domain does not take it:", sent)
		}
		if s := w.mails[sent.Mail.Data]; s != nil {
			if !reflect.DeepEqual(s.mail, sent.Mail) || !slices.Contains(s.mail.To, sent.To) {
				w.fail("K5", "taken:", sent, "want", s.mail)
			}
			s.taken[sent.To]++
			continue
		}
		s, to := w.bounce(sent.To, sent.Mail.Data)
		if s == nil || sent.Mail.From != (api.Address{}) || !reflect.DeepEqual(sent.Mail.To, []api.Address{sent.To}) {
			w.fail("K5", "taken, but of no mail:", sent)
		}
		s.told[to]++
	}
	return l
}

// letters counts what has come to users here: whatever has come has to be a whole mail that goes there, once, or a bounce.
func (w *watch) letters() map[api.Address]map[string]int {
	w.t.Helper()
	got := make(map[api.Address]map[string]int)
	for _, user := range []string{"ann", "bob"} {
		a := api.Address{Local: user, Domain: "here"}
		got[a] = make(map[string]int)
		for _, l := range w.post.Box(user) {
			got[a][l.Data]++
			s := w.mails[l.Data]
			of, _ := w.bounce(a, l.Data)
			if s == nil && of == nil || s != nil && !slices.Contains(s.mail.To, a) {
				w.fail("K5", "there came something else to", user, l)
			}
			if s != nil && got[a][l.Data] > 1 {
				w.fail("K5", "it came twice to", user, l)
			}
		}
	}
	return got
}

// drain makes rounds till nothing waits, and holds what has come against K5.
func (w *watch) drain(now int, fates []api.Fate) {
	w.t.Helper()
	for n := 0; len(w.post.Waiting()) > 0; n++ {
		if n > 20 {
			w.fail("K3", "these wait and wait:", w.post.Waiting())
		}
		w.run(now+3600*n, fates)
	}
	letters := w.letters()
	for _, s := range w.mails {
		for _, to := range s.mail.To {
			if n := letters[s.mail.From][tells(s.mail.From.Local+"@"+s.mail.From.Domain, to.Local+"@"+to.Domain, s.mail.Data)]; n > 0 {
				s.told[to] += n
			}
		}
		came, missed := 0, 0
		for _, to := range s.mail.To {
			if letters[to][s.mail.Data]+s.taken[to]+s.told[to] > 0 {
				came++
			} else if reached(to) || reached(s.mail.From) {
				missed++
			}
		}
		if missed > 0 && (s.sure || came > 0) {
			w.fail("K5", "answered by 250:", s.sure, "came to", came, "not to", missed, "of", s.mail, letters)
		}
	}
}

// reached tells whether what is sent there comes in any case: if it does not, nor comes the bounce, nothing is to be seen of it.
func reached(a api.Address) bool {
	return a.Domain == "here" || a.Domain == "far.net"
}

// filled is a post in which three mails wait: one goes here and there, one is from nobody, and one was tried.
func filled(t *testing.T, name string) *watch {
	w := newWatch(t, name)
	w.say(mailOf("ann@here", "old\r\n", "z@slow.net"))
	w.run(0, fates)
	w.say(mailOf("bob@here", "one\r\n", "ann@here", "x@far.net", "y@gone.net", "bob@here", "z@far.net"))
	w.say(mailOf("p@far.net", "two\r\n", "y@gone.net", "ann@here"), mailOf("", "three\r\n", "y@gone.net", "bob@here"))
	return w
}

// deeds are the calls at which the disk stops: each tells whether it was done as a whole.
var deeds = []struct {
	name string
	call func(w *watch) bool
}{
	{"Say", func(w *watch) bool {
		return w.say(mailOf("bob@here", "new\r\n", "ann@here", "bob@here", "x@far.net", "y@gone.net")) == 1
	}},
	{"Say of two mails", func(w *watch) bool {
		return w.say(mailOf("", "new\r\n", "ann@here", "bob@here"), mailOf("q@gone.net", "newer\r\n", "bob@here", "x@far.net")) == 2
	}},
	{"Run", func(w *watch) bool {
		w.run(60, fates)
		return len(w.post.Waiting()) == 1
	}},
	{"Say and Run", func(w *watch) bool {
		stored := w.say(mailOf("", "new\r\n", "ann@here", "bob@here"))
		w.run(60, fates)
		return stored == 1 && len(w.post.Waiting()) == 1
	}},
	{"Run that gives up", func(w *watch) bool {
		for i := range 9 {
			w.run(60+3600*i, fates)
		}
		return len(w.post.Waiting()) == 0
	}},
}

const manyCalls = 200 // more than any deed makes

func TestK5StopAtEachCall(t *testing.T) {
	for _, deed := range deeds {
		for way, again := range disktest.Again() {
			whole := false
			for n := 0; !whole; n++ {
				w := filled(t, fmt.Sprintf("%s, stopped at %d, run again by way %d", deed.name, n, way))
				if n > manyCalls {
					w.fail("G1", "it never ends")
				}
				w.disk.Stop(n)
				whole = deed.call(w)
				again(w.disk)
				w.mustOpen()
				w.drain(60, fates)
			}
		}
	}
}

func TestK5StopAgainAndAgain(t *testing.T) {
	ways := disktest.Again()
	for d, deed := range deeds {
		for n := range 60 {
			for m := range 40 {
				w := filled(t, fmt.Sprintf("%s, stopped at %d, then at %d", deed.name, n, m))
				w.disk.Stop(n)
				deed.call(w)
				ways[(d+n+5*m)%len(ways)](w.disk)
				w.disk.Stop(m)
				if w.open() == api.OK {
					w.run(100, fates)
				}
				ways[(d+3*n+m)%len(ways)](w.disk)
				w.disk.Stop(m / 2)
				if w.open() == api.OK {
					w.say(mailOf("ann@here", "late\r\n", "bob@here", "x@far.net"))
					w.run(100, fates)
				}
				ways[(n+m)%len(ways)](w.disk)
				w.mustOpen()
				w.drain(1000, all(0))
			}
		}
	}
}

func TestK5ALetterThatCameAheadOfAStop(t *testing.T) {
	for way, again := range disktest.Again() {
		found := false
		for n := range manyCalls {
			w := newWatch(t, fmt.Sprintf("stopped at %d, run again by way %d", n, way))
			w.say(mailOf("", "hi\r\n", "ann@here"))
			w.disk.Stop(n)
			w.run(0, nil)
			again(w.disk)
			w.mustOpen()
			found = found || len(w.post.Box("ann")) == 1 && len(w.post.Waiting()) == 1
			w.drain(0, nil)
		}
		if !found {
			t.Errorf("K5: way %d: no letter came ahead of its being done", way)
		}
	}
}

func TestK4WhatWasTakenIsTold(t *testing.T) {
	for first, to := range [][]string{
		{"ann@here", "x1@far.net", "bob@here", "x2@far.net", "x3@far.net"},
		{"x1@far.net", "x2@far.net", "ann@here", "y@gone.net", "x3@far.net"},
	} {
		last := first
		for n := range manyCalls {
			w := newWatch(t, fmt.Sprint(to, ", stopped at ", n))
			w.say(mailOf("", "hi\r\n", to...))
			w.disk.Stop(n)
			l := w.run(0, fates)
			// The one at whose Done the disk stops is taken, too.
			if n == 0 && len(l) != last || len(l) < last || len(l) > last+1 {
				w.fail("K4", "taken:", l)
			}
			last = len(l)
			w.disk.Stop(math.MaxInt)
			w.mustOpen()
			w.doneAheadOf(to, l)
			w.drain(0, fates)
		}
		if last != 3 {
			t.Errorf("K4: %d were taken", last)
		}
	}
}

// doneAheadOf holds what was taken of a mail against K4: one behind the other, and all that are ahead of the last one are done.
func (w *watch) doneAheadOf(to []string, l []api.Sent) {
	w.t.Helper()
	for i, sent := range l {
		if sent.To != at(fmt.Sprintf("x%d@far.net", i+1)) {
			w.fail("K4", "taken:", l)
		}
		for _, left := range leftOf(w) {
			if slices.Index(to, left.Local+"@"+left.Domain) < slices.Index(to, sent.To.Local+"@"+sent.To.Domain) {
				w.fail("K4", left, "is left, and this one was taken:", sent)
			}
		}
	}
}

// leftOf tells who is left of all mails.
func leftOf(w *watch) []api.Address {
	var l []api.Address
	for _, id := range w.post.Waiting() {
		l = append(l, w.post.mails.Left(id)...)
	}
	return l
}

// refuses holds a post against K4 whose disk has stopped in a round.
func (w *watch) refuses() {
	w.t.Helper()
	was := disktest.Files(w.disk)
	talk, first := w.post.Talk()
	s, want := spoken("", "no\r\n", "ann@here")
	got, e := w.post.Say(talk, "HELO x\r\n"+s+s+"QUIT\r\n")
	if first != "220 here\r\n" || e != api.OK || got != ok+want+notNow+want+notNow+"221 bye\r\n" {
		w.fail("K4", "Say answered", got, e)
	}
	for _, now := range []int{60, 4000, 9000} {
		if l := w.post.Run(now, all(0)); l != nil {
			w.fail("K4", "Run answered", l)
		}
	}
	if !slices.Equal(disktest.Files(w.disk), was) {
		w.fail("K4", "something was done behind the stop")
	}
}

func TestK4BehindAStop(t *testing.T) {
	for way, again := range append(disktest.Again(), func(*disk.Disk) {}) {
		n := 0
		for ; n < manyCalls; n++ {
			w := filled(t, fmt.Sprintf("stopped at %d, run again by way %d", n, way))
			w.disk.Stop(n)
			w.run(60, fates)
			if len(leftOf(w)) == 1 { // no call of this round was refused
				break
			}
			again(w.disk)
			w.refuses()
			w.disk.Crash(0, nil)
			w.refuses()
			w.mustOpen()
			w.drain(60, fates)
		}
		if n < 20 || n == manyCalls {
			t.Errorf("K4: the disk stopped in %d rounds", n)
		}
	}
}

func TestK5Random(t *testing.T) {
	ways := disktest.Again()
	for seed := range 400 {
		r := rand.New(rand.NewSource(int64(seed)))
		w := newWatch(t, fmt.Sprint("seed ", seed))
		now := 0
		for step := range 40 {
			if r.Intn(3) == 0 {
				w.disk.Stop(r.Intn(40))
			}
			if r.Intn(2) == 0 {
				var mails []api.Mail
				for i := range 1 + r.Intn(3) {
					from, _, to := anyMail(r)
					m := mailOf(from, fmt.Sprintf("%d.%d\r\n", step, i))
					m.To = unique(to)
					mails = append(mails, m)
				}
				w.say(mails...)
			} else {
				now += r.Intn(200)
				w.run(now, fates)
			}
			if r.Intn(3) == 0 {
				ways[r.Intn(len(ways))](w.disk)
				if r.Intn(2) == 0 {
					w.disk.Stop(r.Intn(30))
				}
				for w.open() != api.OK {
					w.disk.Crash(r.Intn(4), []int{r.Intn(5), r.Intn(5)})
				}
			}
			w.letters()
		}
		ways[r.Intn(len(ways))](w.disk)
		w.mustOpen()
		w.drain(now+100, fates)
	}
}

func TestG1AnyBytes(t *testing.T) {
	pieces := []string{"HELO x\r\n", "MAIL FROM:<>\r\n", "MAIL FROM:<bob@here>\r\n", "RCPT TO:<ann@here>\r\n", "RCPT TO:<x@", "far.net>\r\n", "DATA\r\n", ".\r\n", "\r", "\n", "\x00", "\xff", "RSET\r\n", strings.Repeat("x", 1001), "\r\n"}
	for seed := range 200 {
		r := rand.New(rand.NewSource(int64(seed)))
		h := newHost(t)
		for range 100 {
			if r.Intn(20) == 0 {
				h.Talk()
			}
			if r.Intn(30) == 0 {
				h.disk.Stop(r.Intn(99))
			}
			h.Say(r.Intn(9)-1, pieces[r.Intn(len(pieces))]+pieces[r.Intn(len(pieces))])
			h.Run(r.Intn(4000)-1, []api.Fate{{Domain: "far.net", Kind: r.Intn(5) - 1}})
			for _, l := range h.Box("ann") {
				if l.Key == "" {
					t.Fatalf("G1: seed %d: %.300q", seed, l)
				}
			}
		}
	}
}
