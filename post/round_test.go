package post

import (
	"math"
	"strings"
	"testing"

	"post/api"
	"post/disk"
)

// fates are those of most tests: domains that take mails, want them later, or never.
var fates = []api.Fate{{Domain: "far.net", Kind: 0}, {Domain: "slow.net", Kind: 1}, {Domain: "gone.net", Kind: 2}}

// all lets every domain of the tests do the same.
func all(kind int) []api.Fate {
	return []api.Fate{{Domain: "far.net", Kind: kind}, {Domain: "slow.net", Kind: kind}, {Domain: "gone.net", Kind: kind}}
}

// tells is the data of a bounce.
func tells(sender string, to string, data string) string {
	return "To: <" + sender + ">\r\nSubject: not delivered\r\n\r\n<" + to + "> could not be reached.\r\n\r\n" + data
}

func TestK3HereAndElsewhere(t *testing.T) {
	h := newHost(t)
	to := []string{"bob@HERE", "x@far.net", "ann@Here", "y@slow.net", "z@FAR.net"}
	first := h.mail("bob@here", "hi\r\n", to...)
	second := h.mail("", "ho\r\n", "ann@here", "x@far.net", "ann@here", "x@Far.net", "ANN@far.net")
	m, o := mailOf("bob@here", "hi\r\n", to...), mailOf("", "ho\r\n", "ann@here", "x@far.net", "ANN@far.net")
	h.run(0, fates,
		api.Sent{ID: first, To: at("x@far.net"), Mail: m},
		api.Sent{ID: first, To: at("z@far.net"), Mail: m},
		api.Sent{ID: second, To: at("x@far.net"), Mail: o},
		api.Sent{ID: second, To: at("ANN@far.net"), Mail: o},
	)
	h.waits(first)
	h.has("ann", "hi\r\n", "ho\r\n")
	h.has("bob", "hi\r\n")
	h.run(60, all(0), api.Sent{ID: first, To: at("y@slow.net"), Mail: m})
	h.waits()
	h.run(120, all(0))
	h.has("ann", "hi\r\n", "ho\r\n")
}

func TestK3TheKeyIsTheNumber(t *testing.T) {
	h := newHost(t)
	var want []api.Letter
	for range 12 {
		id := h.mail("", "hi\r\n", "ann@here")
		want = append(want, api.Letter{Key: key(id), Data: "hi\r\n"})
	}
	h.run(0, nil)
	h.expect("K3: the letters", h.Box("ann"), want)
	for id, want := range map[int]string{1: "000000000001", 42: "000000000042", 999999999999: "999999999999", 1000000000000: "1000000000000", math.MaxInt: "9223372036854775807"} {
		h.expect("K3: the key", key(id), want)
	}
}

func TestK3AheadOfTheTimeAndAtIt(t *testing.T) {
	h := newHost(t)
	m := mailOf("ann@here", "hi\r\n", "x@far.net")
	now := 1000
	for i, wait := range []int{60, 120, 240, 480, 960, 1920, 3600} {
		id := h.mail("ann@here", "hi\r\n", "x@far.net")
		last := now
		for _, w := range []int{60, 120, 240, 480, 960, 1920, 3600}[:i] {
			h.run(last, nil)
			last += w
		}
		h.run(last, nil)
		for _, early := range []int{0, last - 1, last, last + 1, last + wait - 1} {
			h.run(early, all(0))
			h.run(early, all(2))
			h.run(early, nil)
		}
		h.waits(id)
		h.run(last+wait, all(0), api.Sent{ID: id, To: at("x@far.net"), Mail: m})
		h.waits()
		now = last + wait
	}
	h.has("ann")
}

// tryOften tries what waits 8 times, as late as may be, and tells when last.
func (h *host) tryOften(now int) int {
	h.t.Helper()
	for range 7 {
		h.run(now, nil)
		now += 3600
	}
	h.run(now, nil)
	return now
}

func TestK3GivenUp(t *testing.T) {
	for _, late := range []int{-1000000, -1, 0, 1, 59, 3599, 3600, 3601} {
		h := newHost(t)
		id := h.mail("ann@here", "hi\r\n", "x@far.net")
		last := h.tryOften(1000000)
		h.waits(id)
		h.has("ann")
		// It is not tried any more: a domain that would take it now is not asked.
		h.run(last+late, all(0))
		h.waits()
		h.has("ann", tells("ann@here", "x@far.net", "hi\r\n"))
	}
}

func TestK3TriesAreCountedOfEachGoal(t *testing.T) {
	h := newHost(t)
	first := h.mail("ann@here", "1\r\n", "x@slow.net", "y@slow.net", "x@far.net")
	h.run(100, nil)
	second := h.mail("ann@here", "2\r\n", "x@slow.net")
	h.run(130, []api.Fate{{Domain: "slow.net", Kind: 1}})
	m := mailOf("ann@here", "1\r\n", "x@slow.net", "y@slow.net", "x@far.net")
	h.run(160, fates, api.Sent{ID: first, To: at("x@far.net"), Mail: m})
	h.run(190, all(0), api.Sent{ID: second, To: at("x@slow.net"), Mail: mailOf("ann@here", "2\r\n", "x@slow.net")})
	h.run(279, all(0))
	h.waits(first)
	h.run(280, all(0), api.Sent{ID: first, To: at("x@slow.net"), Mail: m}, api.Sent{ID: first, To: at("y@slow.net"), Mail: m})
	h.waits()
}

func TestK3TriesAreForgottenByOpen(t *testing.T) {
	h := newHost(t)
	id := h.mail("ann@here", "hi\r\n", "x@far.net")
	last := h.tryOften(0)
	h.open()
	h.run(last, nil)
	h.run(last+59, all(0))
	h.open()
	h.run(last+59, all(0), api.Sent{ID: id, To: at("x@far.net"), Mail: mailOf("ann@here", "hi\r\n", "x@far.net")})
	h.waits()
}

func TestK3TriesOfWhatIsDoneAreNotKept(t *testing.T) {
	h := newHost(t)
	h.mail("ann@here", "hi\r\n", "x@far.net", "y@slow.net", "z@gone.net", "bob@here")
	h.run(0, nil)
	h.expect("K3: what is kept", h.mails.tried, map[goal]tries{{1, at("x@far.net")}: {1, 0}, {1, at("y@slow.net")}: {1, 0}, {1, at("z@gone.net")}: {1, 0}})
	h.Run(60, fates)
	h.expect("K3: what is kept", h.mails.tried, map[goal]tries{{1, at("y@slow.net")}: {2, 60}})
	h.Run(600, all(2))
	h.expect("K3: what is kept", h.mails.tried, map[goal]tries{})
}

func TestK3TimesOutOfTheirBounds(t *testing.T) {
	h := newHost(t)
	id := h.mail("bob@here", "hi\r\n", "ann@here", "x@far.net", "x@gone.net", "x@slow.net")
	for _, now := range []int{math.MinInt, -1, most + 1, math.MaxInt} {
		if l := h.Run(now, fates); l != nil {
			t.Fatalf("K3: Run(%d) answered %v", now, l)
		}
		h.has("ann")
		h.has("bob")
		h.waits(id)
	}
	m := mailOf("bob@here", "hi\r\n", "ann@here", "x@far.net", "x@gone.net", "x@slow.net")
	h.run(0, nil)
	h.run(most, []api.Fate{{Domain: "far.net", Kind: 0}}, api.Sent{ID: id, To: at("x@far.net"), Mail: m})
	h.run(most, all(0))
	h.has("ann", "hi\r\n")
	h.open()
	h.run(most, all(0), api.Sent{ID: id, To: at("x@gone.net"), Mail: m}, api.Sent{ID: id, To: at("x@slow.net"), Mail: m})
}

func TestK3BouncesComeInTheSameRound(t *testing.T) {
	h := newHost(t)
	first := h.mail("p@far.net", "1\r\n", "x@gone.net", "y@far.net", "z@gone.net")
	h.mail("ann@here", "2\r\n", "x@gone.net", "bob@here")
	third := h.mail("", "3\r\n", "y@far.net")
	bounce := func(to string) api.Mail { return mailOf("", tells("p@far.net", to, "1\r\n"), "p@far.net") }
	l := h.Run(0, fates)
	h.expect("K3: how many were taken", len(l), 4)
	h.expect("K3: what was taken", l, []api.Sent{
		{ID: first, To: at("y@far.net"), Mail: mailOf("p@far.net", "1\r\n", "x@gone.net", "y@far.net", "z@gone.net")},
		{ID: third, To: at("y@far.net"), Mail: mailOf("", "3\r\n", "y@far.net")},
		{ID: l[2].ID, To: at("p@far.net"), Mail: bounce("x@gone.net")},
		{ID: l[3].ID, To: at("p@far.net"), Mail: bounce("z@gone.net")},
	})
	if l[2].ID <= third || l[3].ID <= l[2].ID {
		t.Errorf("K3: the bounces have the numbers %d and %d", l[2].ID, l[3].ID)
	}
	h.has("ann", tells("ann@here", "x@gone.net", "2\r\n"))
	h.has("bob", "2\r\n")
	h.waits()
}

func TestK3BouncesAreTriedAgain(t *testing.T) {
	h := newHost(t)
	h.mail("p@slow.net", "hi\r\n", "x@gone.net")
	h.run(50, fates)
	id := h.Waiting()[0]
	h.run(109, all(0))
	h.run(110, fates)
	h.waits(id)
	h.run(230, all(0), api.Sent{ID: id, To: at("p@slow.net"), Mail: mailOf("", tells("p@slow.net", "x@gone.net", "hi\r\n"), "p@slow.net")})
	h.waits()
}

func TestK3BouncesAreBouncedToNobody(t *testing.T) {
	h := newHost(t)
	h.mail("p@gone.net", "hi\r\n", "x@gone.net")
	h.mail("", "ho\r\n", "x@gone.net", "ann@here")
	h.run(0, fates)
	h.waits()
	h.mail("p@slow.net", "hi\r\n", "x@gone.net")
	h.run(0, fates)
	now := 3600
	for range 7 {
		h.run(now, fates)
		now += 3600
	}
	h.expect("K3: how many wait", len(h.Waiting()), 1)
	h.run(now, all(0))
	h.waits()
	h.has("ann", "ho\r\n")
	h.has("")
}

func TestK3ABounceToSomebodyHereWhoIsNoUser(t *testing.T) {
	h := newHost(t)
	h.mail(`"z d"@HERE`, strings.Repeat("x", 998)+"\r\n", "x@gone.net")
	h.mail("zed@here", strings.Repeat("x", 998)+"\r\n\r\n", "x@gone.net")
	h.run(0, fates)
	h.waits()
	h.has("z d", tells(`"z d"@here`, "x@gone.net", strings.Repeat("x", 998)+"\r\n"))
	h.has("zed", strings.TrimSuffix(tells("zed@here", "x@gone.net", ""), "\r\n"))
}

func TestK3AMailToTheSenderOfIt(t *testing.T) {
	h := newHost(t)
	h.mail("ann@here", "hi\r\n", "x@gone.net", "ann@here", "y@gone.net")
	h.run(0, fates)
	h.has("ann", "hi\r\n", tells("ann@here", "x@gone.net", "hi\r\n"), tells("ann@here", "y@gone.net", "hi\r\n"))
}

func TestK3AnyMailOfTheSpool(t *testing.T) {
	d := disk.New()
	odd := api.Address{Local: "\x00/:\r\n", Domain: "\xff"}
	m := api.Mail{From: odd, To: []api.Address{{}, {Local: "", Domain: "hERE"}, odd, {Local: "", Domain: "Here"}, {}, {Local: "ann", Domain: "HERE"}, {Local: "ann", Domain: "here"}}, Data: "no end"}
	ids := put(t, d, m)
	h := &host{t: t, disk: d}
	h.open()
	h.run(0, []api.Fate{{Domain: "\xff", Kind: 0}, {Domain: "", Kind: 0}},
		api.Sent{ID: ids[0], Mail: m},
		api.Sent{ID: ids[0], To: odd, Mail: m},
	)
	h.has("", "no end")
	h.has("ann", "no end")
	h.waits()
	h.open()
	put(t, d, m)
	h.open()
	h.run(0, []api.Fate{{Domain: "\xff", Kind: 2}, {Domain: "", Kind: 2}})
	h.waits()
	h.has("", "no end", "no end")
}

func TestK3AHostWithoutAName(t *testing.T) {
	d := disk.New()
	ids := put(t, d, api.Mail{To: []api.Address{{Local: "ann"}, {Local: "ann", Domain: "here"}}, Data: "hi"})
	p, e := Open(d, "", nil)
	if e != api.OK {
		t.Fatalf("K1: Open answered %d", e)
	}
	h := &host{Post: p, t: t, disk: d}
	h.run(0, nil)
	h.has("ann", "hi")
	h.waits(ids...)
}

func TestK3TheFirstFateHolds(t *testing.T) {
	h := newHost(t)
	h.mail("ann@here", "hi\r\n", "x@far.net", "bob@here")
	// What happens at the host itself is no domain's to say.
	h.run(0, []api.Fate{{Domain: "here", Kind: 2}, {Domain: "far.net", Kind: 7}, {Domain: "far.net", Kind: 0}})
	h.expect("K3: how many wait", len(h.Waiting()), 1)
	h.has("bob", "hi\r\n")
	h.run(60, []api.Fate{{Domain: "FAR.NET", Kind: 2}, {Domain: "far.net", Kind: 0}})
	h.waits()
	h.has("ann", tells("ann@here", "x@far.net", "hi\r\n"))
}
