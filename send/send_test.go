package send

import (
	"fmt"
	"math"
	"reflect"
	"strings"
	"testing"

	"post/addr"
	"post/api"
)

const most = 1000000000000 // the last time

func expectNext(t *testing.T, tries int, last int, want int, wantOK bool) {
	t.Helper()
	if got, ok := Next(tries, last); got != want || ok != wantOK {
		t.Errorf("J1: Next(%d, %d) = %d, %t, want %d, %t", tries, last, got, ok, want, wantOK)
	}
}

func TestJ1EachTimeTwiceAsLong(t *testing.T) {
	for i, wait := range []int{60, 120, 240, 480, 960, 1920, 3600} {
		for _, last := range []int{0, 1, 59, 3601, most - 3600, most - 1, most} {
			expectNext(t, i+1, last, last+wait, true)
		}
	}
}

func TestJ1GivenUpOrNotTried(t *testing.T) {
	for _, tries := range []int{math.MinInt, -8, -1, 0, 8, 9, 63, 64, 65, 1 << 32, math.MaxInt} {
		for _, last := range []int{0, 1, most, most + 1, -1} {
			expectNext(t, tries, last, 0, false)
		}
	}
}

func TestJ1NoSuchTime(t *testing.T) {
	for tries := range 10 {
		for _, last := range []int{math.MinInt, -61, -60, -1, most + 1, most + 3600, math.MaxInt - 1, math.MaxInt} {
			expectNext(t, tries, last, 0, false)
		}
	}
}

// pairs are names, and whether they differ by A to Z and a to z alone.
var pairs = []struct {
	a, b string
	same bool
}{
	{"", "", true},
	{"far.net", "far.net", true},
	{"FAR.net", "far.NET", true},
	{"AbcMZ", "aBCmz", true},
	{"A\xffZ\x00", "a\xffz\x00", true},
	{"", "a", false},
	{"far.net", "far.ne", false},
	{"far.net", "far.net.", false},
	{"far.net", " far.net", false},
	{"far.net", "near.net", false},
	{"a", "b", false},
	{"@", "`", false},
	{"[", "{", false},
	{"0", "P", false},
	{"\x1a", ":", false},
	{"k", "\u212a", false},
	{"s", "\u017f", false},
	{"\u00e4", "\u00c4", false},
	{"\xe4", "\xc4", false},
}

func TestJ2Here(t *testing.T) {
	for _, p := range pairs {
		for _, local := range []string{"", "ann", p.a} {
			if Here(p.a, api.Address{Local: local, Domain: p.b}) != p.same || Here(p.b, api.Address{Local: local, Domain: p.a}) != p.same {
				t.Errorf("J2: Here of %q and %q is not %t", p.a, p.b, p.same)
			}
		}
	}
}

func expectFate(t *testing.T, l []api.Fate, domain string, want int) {
	t.Helper()
	if got := Fate(l, domain); got != want {
		t.Errorf("J2: Fate(%.300s, %q) = %d, want %d", fmt.Sprint(l), domain, got, want)
	}
}

func TestJ2FateOfEachKind(t *testing.T) {
	for _, p := range pairs {
		for kind := range 3 {
			want := 1
			if p.same {
				want = kind
			}
			expectFate(t, []api.Fate{{Domain: p.a, Kind: kind}}, p.b, want)
			expectFate(t, []api.Fate{{Domain: p.b, Kind: kind}}, p.a, want)
		}
	}
}

func TestJ2FateOfNoSuchKind(t *testing.T) {
	for _, kind := range []int{math.MinInt, -1, 3, 4, 256, 1 << 32, math.MaxInt} {
		expectFate(t, []api.Fate{{Domain: "a", Kind: kind}}, "a", 1)
		expectFate(t, []api.Fate{{Domain: "a", Kind: kind}, {Domain: "a", Kind: 2}}, "A", 1)
	}
}

func TestJ2TheFirstFateHolds(t *testing.T) {
	l := []api.Fate{{Domain: "b", Kind: 2}, {Domain: "A", Kind: 0}, {Domain: "a", Kind: 2}, {Domain: "b", Kind: 0}, {Domain: "", Kind: 2}}
	for domain, want := range map[string]int{"a": 0, "A": 0, "b": 2, "B": 2, "": 2, "c": 1, "ab": 1} {
		expectFate(t, l, domain, want)
	}
	expectFate(t, nil, "a", 1)
	expectFate(t, []api.Fate{}, "", 1)
}

func TestJ2FateAmongMany(t *testing.T) {
	var l []api.Fate
	for i := range 5000 {
		l = append(l, api.Fate{Domain: strings.Repeat("x", i%70) + ".net", Kind: i % 2 * 2})
	}
	l = append(l, api.Fate{Domain: "last.net", Kind: 2})
	expectFate(t, l, "LAST.NET", 2)
	expectFate(t, l, "XX.net", 0)
	expectFate(t, l, "xxx.net", 2)
}

// bounced makes a bounce, and holds all but its data against J3.
func bounced(t *testing.T, m api.Mail, to api.Address) string {
	t.Helper()
	kept := api.Mail{From: m.From, To: append([]api.Address(nil), m.To...), Data: m.Data}
	b, ok := Bounce(m, to)
	if !ok || b.From != (api.Address{}) || !reflect.DeepEqual(b.To, []api.Address{m.From}) {
		t.Fatalf("J3: of a mail from %q: from %q to %q, %t", m.From, b.From, b.To, ok)
	}
	if !reflect.DeepEqual(m.To, kept.To) {
		t.Fatalf("G4: Bounce made %q of its list", m.To)
	}
	return b.Data
}

func at(local string, domain string) api.Address {
	return api.Address{Local: local, Domain: domain}
}

func TestJ3Bounce(t *testing.T) {
	const tells = "To: <ann@here>\r\nSubject: not delivered\r\n\r\n<zed@far.net> could not be reached.\r\n"
	for data, want := range map[string]string{
		"":                  "\r\n",
		"hi\r\n":            "\r\nhi\r\n",
		"no end":            "\r\nno end",
		".\r\n..\r\n":       "\r\n.\r\n..\r\n",
		"\r\n\r\n":          "\r\n\r\n\r\n",
		"\x00\xff\n\r":      "\r\n\x00\xff\n\r",
		long(999):           "\r\n" + long(999),
		long(1000):          "\r\n" + long(1000),
		long(1001):          "",
		long(2000):          "",
		long(1000) + "\r\n": "",
	} {
		m := api.Mail{From: at("ann", "here"), To: []api.Address{at("bob", "here"), at("zed", "far.net")}, Data: data}
		if got := bounced(t, m, m.To[1]); got != tells+want {
			t.Errorf("J3: of data of %d bytes: %.500q", len(data), got)
		}
	}
}

func long(n int) string {
	return strings.Repeat("0123456789", n/10+1)[:n]
}

// texts are addresses, and how a bounce tells them.
var texts = []struct {
	a    api.Address
	text string
}{
	{at("ann", "here"), "ann@here"},
	{at("a.b+c", "x.y-z.net"), "a.b+c@x.y-z.net"},
	{at("a b", "c"), `"a b"@c`},
	{at(`a"\`, "c"), `"a\"\\"@c`},
	{at("", "c"), `""@c`},
	{at("a..b", "c"), `"a..b"@c`},
	// Print answers these by nothing.
	{at("a", ""), "a@"},
	{at("a b", ""), "a b@"},
	{at("a", "C"), "a@C"},
	{at(`a"`, "-"), `a"@-`},
	{at("\x00", "c"), "\x00@c"},
	{at("\r\n", "c"), "\r\n@c"},
	{at("é", "c"), "é@c"},
	{at("a", "b@c>"), "a@b@c>"},
	{at(long(65), "c"), long(65) + "@c"},
	{at("a", long(64)), "a@" + long(64)},
	{at(long(5000), long(7000)), long(5000) + "@" + long(7000)},
}

func TestJ3TextsOfAddresses(t *testing.T) {
	printed := 0
	for _, from := range texts {
		if _, ok := addr.Print(from.a); ok {
			printed++
		}
		for _, to := range append(texts, struct {
			a    api.Address
			text string
		}{text: "@"}) {
			want := "To: <" + from.text + ">\r\nSubject: not delivered\r\n\r\n<" + to.text + "> could not be reached.\r\n\r\nx"
			if got := bounced(t, api.Mail{From: from.a, Data: "x"}, to.a); got != want {
				t.Errorf("J3: %.500q, want %.500q", got, want)
			}
		}
	}
	if printed != 6 {
		t.Errorf("A3: %d of the addresses have a text of their own", printed)
	}
}

func TestJ3AMailFromNobodyIsNotBounced(t *testing.T) {
	for _, data := range []string{"", "hi\r\n", long(1001)} {
		m := api.Mail{To: []api.Address{at("ann", "here")}, Data: data}
		for _, to := range []api.Address{m.To[0], {}} {
			if b, ok := Bounce(m, to); ok || !reflect.DeepEqual(b, api.Mail{}) {
				t.Errorf("J3: %.300q, %t", b, ok)
			}
		}
	}
	first, _ := Bounce(api.Mail{From: at("ann", "here")}, at("zed", "far.net"))
	if b, ok := Bounce(first, first.To[0]); ok || !reflect.DeepEqual(b, api.Mail{}) {
		t.Errorf("J3: a bounce is bounced: %.300q", b)
	}
}

func TestG4BouncesShareNothing(t *testing.T) {
	m := api.Mail{From: at("ann", "here"), To: []api.Address{at("ann", "here")}, Data: "hi"}
	a, _ := Bounce(m, m.To[0])
	b, _ := Bounce(m, m.To[0])
	clear(a.To)
	if b.To[0] != m.From || m.To[0] != m.From {
		t.Errorf("G4: %q, %q", b.To, m.To)
	}
}
