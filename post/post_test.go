package post

import (
	"fmt"
	"math"
	"reflect"
	"slices"
	"strings"
	"testing"

	"post/addr"
	"post/api"
	"post/box"
	"post/disk"
	"post/disktest"
	"post/spool"
)

const most = 1000000000000 // the last time

// host is a post on a disk, with the users ann and bob.
type host struct {
	*Post
	t    *testing.T
	disk *disk.Disk
}

func newHost(t *testing.T) *host {
	h := &host{t: t, disk: disk.New()}
	h.open()
	return h
}

func (h *host) open() {
	h.t.Helper()
	p, e := Open(h.disk, "Here", []string{"ann", "bob"})
	if e != api.OK || p == nil {
		h.t.Fatalf("K1: Open answered %d", e)
	}
	h.Post = p
}

func (h *host) expect(promise string, got any, want any) {
	h.t.Helper()
	if !reflect.DeepEqual(got, want) {
		h.t.Fatalf("%s: %.600s, want %.600s", promise, fmt.Sprintf("%#v", got), fmt.Sprintf("%#v", want))
	}
}

// say holds the replies of a talk against what is wanted.
func (h *host) say(talk int, s string, want string) {
	h.t.Helper()
	got, e := h.Say(talk, s)
	if e != api.OK || got != want {
		h.t.Fatalf("K2: %.300q was answered by %.300q, %d, want %.300q", s, got, e, want)
	}
}

const (
	ok     = "250 ok\r\n"
	goOn   = "354 go\r\n"
	notNow = "451 later\r\n"
)

// spoken is how a mail is told, and how it is answered up to its end.
func spoken(from string, data string, to ...string) (string, string) {
	s, want := "MAIL FROM:<"+from+">\r\n", ok
	for _, a := range to {
		s += "RCPT TO:<" + a + ">\r\n"
		want += ok
	}
	return s + "DATA\r\n" + data + ".\r\n", want + goOn
}

// mail lets a mail come in by a talk of its own, and tells its number.
func (h *host) mail(from string, data string, to ...string) int {
	h.t.Helper()
	n, _ := h.Talk()
	s, want := spoken(from, data, to...)
	h.say(n, "HELO x\r\n"+s, ok+want+ok)
	ids := h.Waiting()
	return ids[len(ids)-1]
}

// run holds a round against what is wanted to be taken.
func (h *host) run(now int, fates []api.Fate, want ...api.Sent) {
	h.t.Helper()
	h.expect(fmt.Sprintf("K3: Run(%d)", now), h.Run(now, fates), want)
}

func (h *host) waits(ids ...int) {
	h.t.Helper()
	h.expect("K1: Waiting", h.Waiting(), ids)
}

// has holds the data of a user's letters against what is wanted.
func (h *host) has(user string, want ...string) {
	h.t.Helper()
	var got []string
	for _, l := range h.Box(user) {
		got = append(got, l.Data)
	}
	h.expect("K3: the letters of "+user, got, want)
}

func at(text string) api.Address {
	a, e, _ := addr.Parse(text)
	if e != api.OK {
		panic(text)
	}
	return a
}

func mailOf(from string, data string, to ...string) api.Mail {
	m := api.Mail{Data: data}
	if from != "" {
		m.From = at(from)
	}
	for _, a := range to {
		m.To = append(m.To, at(a))
	}
	return m
}

// put lays mails into the spool of a disk on which no post is open.
func put(t *testing.T, d *disk.Disk, mails ...api.Mail) []int {
	t.Helper()
	s, e := spool.Open(d)
	var ids []int
	for _, m := range mails {
		var n int
		if e == api.OK {
			n, e = s.Put(m)
		}
		ids = append(ids, n)
	}
	if e != api.OK {
		t.Fatalf("F2: %d", e)
	}
	return ids
}

func TestK1AnEmptyDisk(t *testing.T) {
	h := newHost(t)
	h.waits()
	for _, user := range []string{"ann", "zed", ""} {
		h.has(user)
	}
	h.run(0, nil)
}

func TestK1WhatWaitsIsWhatTheSpoolHas(t *testing.T) {
	d := disk.New()
	m := mailOf("", "hi", "x@far.net")
	ids := put(t, d, m, m, m, m, m, m, m, m, m, m, m, m) // numbers of one digit, and of two
	h := &host{t: t, disk: d}
	h.open()
	h.waits(ids...)
	last := h.mail("", "hi\r\n", "ann@here")
	h.waits(append(ids, last)...)
	h.run(0, nil)
	h.waits(ids...)
	d.Crash(0, nil)
	h.open()
	h.waits(ids...)
}

func TestK1ADiskThatStops(t *testing.T) {
	for n := range 50 {
		d := disk.New()
		put(t, d, mailOf("", "hi", "ann@here"))
		d.Stop(n)
		p, e := Open(d, "here", nil)
		if e == api.OK {
			if n == 0 {
				t.Fatal("K1: Open goes on though the disk has stopped")
			}
			return
		}
		if p != nil || e != api.ErrDead {
			t.Fatalf("K1: stopped at %d: %v, %d", n, p, e)
		}
		d.Crash(n%3, []int{n})
		h := &host{t: t, disk: d}
		h.open()
		h.run(0, nil)
		h.has("ann", "hi")
	}
	t.Error("K1: Open never ends")
}

func TestK1BoxIsWhatTheDiskHas(t *testing.T) {
	h := newHost(t)
	for _, key := range []string{"x", "", "000000000001 "} {
		if e := box.Deliver(h.disk, "ann", key, "data of "+key); e != api.OK {
			t.Fatalf("H2: %d", e)
		}
	}
	id := h.mail("", "hi\r\n", "ann@here")
	h.run(0, nil)
	h.expect("K1: Box", h.Box("ann"), []api.Letter{{Key: "", Data: "data of "}, {Key: key(id), Data: "hi\r\n"}, {Key: "000000000001 ", Data: "data of 000000000001 "}, {Key: "x", Data: "data of x"}})
	h.has("Ann")
	h.has("bob")
}

func TestK1OtherFilesAreLeftAlone(t *testing.T) {
	d := disktest.With("", "post", "post/1", "talk/1", "spool", "box", "a/spool/mail/1")
	was := disktest.Files(d)
	h := &host{t: t, disk: d}
	h.open()
	h.mail("bob@here", "hi\r\n", "ann@here", "x@gone.net")
	h.run(0, []api.Fate{{Domain: "gone.net", Kind: 2}})
	h.disk.Crash(0, nil)
	others := slices.DeleteFunc(disktest.Files(d), func(f disktest.File) bool {
		return strings.HasPrefix(f.Name, "spool/") || strings.HasPrefix(f.Name, "box/")
	})
	h.expect("F1, H1: the other files", others, was)
}

func TestK2NumbersAndFirstReplies(t *testing.T) {
	h := newHost(t)
	for want := range 20 {
		if n, s := h.Talk(); n != want || s != "220 here\r\n" {
			t.Fatalf("K2: Talk answered %d, %q", n, s)
		}
		h.say(want/2, "QUIT x\r\n", "501 how\r\n")
	}
}

func TestK2ThereIsNoSuchTalk(t *testing.T) {
	h := newHost(t)
	s, _ := spoken("", "hi\r\n", "ann@here")
	for n := range 3 {
		for _, talk := range []int{math.MinInt, -1, n, n + 1, math.MaxInt} {
			if got, e := h.Say(talk, "HELO x\r\n"+s); got != "" || e != api.ErrNone {
				t.Errorf("K2: with %d talks Say(%d) answered %q, %d", n, talk, got, e)
			}
		}
		h.Talk()
	}
	h.waits()
}

func TestK2TheExamples(t *testing.T) {
	h := newHost(t)
	n, _ := h.Talk()
	for _, l := range [][2]string{{"HELO x", ok}, {"MAIL FROM:<>", ok}, {"RCPT TO:<ann@here>", ok}, {"DATA", goOn}, {"hi", ""}, {".", ok}} {
		h.say(n, l[0]+"\r\n", l[1])
	}
	h.run(7, nil)
	h.has("ann", "hi\r\n")
	h.say(n, "MAIL FROM:<>\r\nRCPT TO:<zed@here>\r\nRCPT TO:<ZED@Far.net>\r\nDATA\r\n.\r\n", ok+"550 who\r\n"+ok+goOn+ok)
	id := h.Waiting()[0]
	h.run(8, []api.Fate{{Domain: "far.net", Kind: 0}}, api.Sent{ID: id, To: at("ZED@far.net"), Mail: mailOf("", "", "ZED@far.net")})
	h.waits()
}

func TestK2SeveralMailsInOneSay(t *testing.T) {
	h := newHost(t)
	n, _ := h.Talk()
	s, want := "HELO x\r\n", ok
	for i := range 12 {
		m, w := spoken("bob@here", fmt.Sprint(i)+"\r\n", "ann@here")
		s, want = s+m+"NOOP\r\n", want+w+ok+ok
	}
	h.say(n, s+"QUIT\r\n"+s, want+"221 bye\r\n")
	if ids := h.Waiting(); len(ids) != 12 || !slices.IsSorted(ids) {
		t.Fatalf("K1: Waiting answered %d", ids)
	}
	h.say(n, s, "")
	h.run(0, nil)
	h.has("ann", "0\r\n", "1\r\n", "2\r\n", "3\r\n", "4\r\n", "5\r\n", "6\r\n", "7\r\n", "8\r\n", "9\r\n", "10\r\n", "11\r\n")
}

func TestK2SeveralTalksAtATime(t *testing.T) {
	h := newHost(t)
	const talks = 5
	var texts, wants, gots [talks]string
	for i := range talks {
		n, _ := h.Talk()
		h.expect("K2: the number", n, i)
		m, w := spoken("bob@here", fmt.Sprintf("..%d\r\n", i), "ann@here", "x@far.net", "ann@here")
		texts[i], wants[i] = "EHLO "+strings.Repeat("x", i+1)+"\r\n"+m+m, ok+w+ok+w+ok
	}
	var came []string
	for step := range 300 {
		for i := range talks {
			size := min(i+1, len(texts[i])) // the later ones are faster
			got, e := h.Say(i, texts[i][:size])
			if e != api.OK {
				t.Fatalf("K2: Say answered %d at step %d", e, step)
			}
			texts[i] = texts[i][size:]
			gots[i] += got
			if len(h.Waiting()) > len(came) {
				came = append(came, fmt.Sprintf(".%d\r\n", i))
			}
		}
	}
	h.expect("K2: the replies", gots, wants)
	h.expect("K2: how many wait", len(came), 2*talks)
	h.run(0, nil)
	h.has("ann", came...)
}

func TestK2OnlyAFullMailIsPut(t *testing.T) {
	h := newHost(t)
	n, _ := h.Talk()
	h.say(n, "HELO x\r\nDATA\r\n", ok+"503 when\r\n")
	s, want := spoken("", strings.Repeat(strings.Repeat("x", 998)+"\r\n", 2)+"y\r\n", "ann@here")
	h.say(n, s, want+"552 much\r\n")
	s, want = spoken("", "a\nb\r\n", "ann@here")
	h.say(n, s, want+"554 bad\r\n")
	h.say(n, "MAIL FROM:<>\r\nRCPT TO:<ann@here>\r\nDATA\r\nhi\r\n..\r\n.", ok+ok+goOn)
	h.waits()
	h.say(n, "\r\n", ok)
	h.run(0, nil)
	h.has("ann", "hi\r\n.\r\n")
}

func TestK2WhatIsAnsweredBy250SurvivesAnyCrash(t *testing.T) {
	for _, crash := range disktest.Again() {
		h := newHost(t)
		id := h.mail("bob@here", "hi\r\n", "ann@here", "x@far.net")
		crash(h.disk)
		h.open()
		h.waits(id)
		h.run(0, []api.Fate{{Domain: "far.net", Kind: 0}}, api.Sent{ID: id, To: at("x@far.net"), Mail: mailOf("bob@here", "hi\r\n", "ann@here", "x@far.net")})
		h.has("ann", "hi\r\n")
	}
}

func TestK2ADiskThatHasStopped(t *testing.T) {
	h := newHost(t)
	h.disk.Stop(0)
	n, _ := h.Talk()
	s, want := spoken("", "hi\r\n", "ann@here")
	h.say(n, "HELO x\r\n"+s+s+"NOOP\r\n", ok+want+notNow+want+notNow+ok)
	h.disk.Stop(math.MaxInt) // a spool that has met a stop takes nothing any more
	h.say(n, s+"QUIT\r\n", want+notNow+"221 bye\r\n")
	if l := h.Run(0, nil); l != nil {
		t.Errorf("K4: %v", l)
	}
	h.has("ann")
	h.open()
	h.run(0, nil)
	h.waits()
}

func TestG4ListsThatAreHandedInAreNotKept(t *testing.T) {
	users := []string{"ann", "bob"}
	p, _ := Open(disk.New(), "here", users)
	h := &host{Post: p, t: t}
	h.expect("G4: the users", users, []string{"ann", "bob"})
	clear(users)
	fates := []api.Fate{{Domain: "FAR.net", Kind: 1}, {Domain: "gone.net", Kind: 2}}
	h.mail("bob@here", "hi\r\n", "ann@here", "x@far.net", "x@gone.net")
	h.run(0, fates)
	h.expect("G4: the fates", fates, []api.Fate{{Domain: "FAR.net", Kind: 1}, {Domain: "gone.net", Kind: 2}})
	for i := range fates {
		fates[i] = api.Fate{Domain: "far.net", Kind: 0}
	}
	h.run(60, nil)
	h.has("ann", "hi\r\n")
}

func TestG4AnswersShareNothing(t *testing.T) {
	h := newHost(t)
	id := h.mail("bob@here", "hi\r\n", "x@far.net", "y@far.net", "ann@here", "z@slow.net")
	l := h.Run(0, []api.Fate{{Domain: "far.net", Kind: 0}})
	h.expect("K3: how many were taken", len(l), 2)
	clear(l[0].Mail.To)
	h.expect("G4", l[1].Mail, mailOf("bob@here", "hi\r\n", "x@far.net", "y@far.net", "ann@here", "z@slow.net"))
	clear(l[1].Mail.To)
	for range 2 {
		ids, letters := h.Waiting(), h.Box("ann")
		h.expect("G4", ids, []int{id})
		h.expect("G4", letters, []api.Letter{{Key: key(id), Data: "hi\r\n"}})
		clear(ids)
		clear(letters)
	}
	l = h.Run(60, []api.Fate{{Domain: "slow.net", Kind: 0}})
	h.expect("G4", l, []api.Sent{{ID: id, To: at("z@slow.net"), Mail: mailOf("bob@here", "hi\r\n", "x@far.net", "y@far.net", "ann@here", "z@slow.net")}})
}

func TestG3PostsOfTwoDisksShareNothing(t *testing.T) {
	a, b := newHost(t), newHost(t)
	n := a.mail("", "hi\r\n", "ann@here", "x@far.net")
	b.waits()
	if _, e := b.Say(0, ""); e != api.ErrNone {
		t.Errorf("G3: Say answered %d", e)
	}
	a.run(0, nil)
	b.has("ann")
	b.expect("G3: the first number", b.mail("", "ho\r\n", "ann@here", "x@far.net"), n)
	b.run(0, []api.Fate{{Domain: "far.net", Kind: 0}}, api.Sent{ID: n, To: at("x@far.net"), Mail: mailOf("", "ho\r\n", "ann@here", "x@far.net")})
	a.waits(n)
}
