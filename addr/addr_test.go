package addr

import (
	"regexp"
	"strings"
	"testing"

	"post/api"
)

type refusal struct {
	text string
	e    api.Errno
	at   int
}

func expectRefusals(t *testing.T, promise string, all []refusal) {
	t.Helper()
	for _, r := range all {
		a, e, at := Parse(r.text)
		if e != r.e || at != r.at || a != (api.Address{}) {
			t.Errorf("%s: Parse(%q) = %v, %d, %d, want no address, %d, %d", promise, r.text, a, e, at, r.e, r.at)
		}
	}
}

func expectAddress(t *testing.T, promise, text string, want api.Address) {
	t.Helper()
	if a, e, at := Parse(text); a != want || e != api.OK || at != 0 {
		t.Errorf("%s: Parse(%q) = %v, %d, %d, want %v, 0, 0", promise, text, a, e, at, want)
	}
}

func letters(n int) string { return strings.Repeat("x", n) }

// domainOf makes a domain of n bytes whose labels keep to their bound.
func domainOf(n int) string {
	return strings.Repeat(letters(49)+".", n/50) + letters(n%50)
}

// The bytes are told here a second time, so that a wrong mark shows.
func mayStand(at string, c byte) bool {
	letterOrDigit := c >= '0' && c <= '9' || c >= 'A' && c <= 'Z' || c >= 'a' && c <= 'z'
	switch at {
	case "atom":
		return letterOrDigit || strings.Contains("!#$%&'*+-/=?^_`{|}~", string(rune(c)))
	case "quotes":
		return c >= 32 && c <= 126 && c != 34 && c != 92
	case "slash":
		return c >= 32 && c <= 126
	case "label":
		return letterOrDigit || c == '-'
	}
	return letterOrDigit
}

func TestA1EveryByteEverywhere(t *testing.T) {
	for _, p := range []struct{ at, ahead, behind string }{
		{"atom", "a", "b@c"},
		{"quotes", "\"a", "b\"@c"},
		{"slash", "\"a\\", "b\"@c"},
		{"label", "a@b", "c"},
		{"edge", "a@", "c"},
		{"edge", "a@b.", "c"},
	} {
		for n := range 256 {
			c := byte(n)
			if c == '.' && (p.at == "atom" || p.ahead == "a@b") || c == '@' && p.at == "atom" || c == '"' && p.at == "quotes" || c == '\\' && p.at == "quotes" {
				continue // it parts what is around it: told by the other tests
			}
			_, e, at := Parse(p.ahead + string([]byte{c}) + p.behind)
			want, wantAt := api.OK, 0
			if !mayStand(p.at, c) {
				want, wantAt = api.ErrForm, len(p.ahead)
			}
			if e != want || at != wantAt {
				t.Errorf("A1: byte %d in %s (behind %q): %d, %d, want %d, %d", n, p.at, p.ahead, e, at, want, wantAt)
			}
		}
	}
}

func TestA2Addresses(t *testing.T) {
	for text, want := range map[string]api.Address{
		"a@b":                           {Local: "a", Domain: "b"},
		"Ann.B.c@Far.NET":               {Local: "Ann.B.c", Domain: "far.net"},
		"!#$%&'*+-/=?^_`{|}~@0":         {Local: "!#$%&'*+-/=?^_`{|}~", Domain: "0"},
		"-@a--b.1-2":                    {Local: "-", Domain: "a--b.1-2"},
		"\"\"@c":                        {Domain: "c"},
		"\"A b.@..\"@C":                 {Local: "A b.@..", Domain: "c"},
		"\"\\\"\\\\\\a\\ \"@c":          {Local: "\"\\a ", Domain: "c"},
		"\"plain\"@AZ.az":               {Local: "plain", Domain: "az.az"},
		"0.1.2@3.4.5":                   {Local: "0.1.2", Domain: "3.4.5"},
		"\"" + "\\~\\}\\|" + "\"@Z-Z.Z": {Local: "~}|", Domain: "z-z.z"},
	} {
		expectAddress(t, "A2", text, want)
	}
}

func TestA2Form(t *testing.T) {
	expectRefusals(t, "A2", []refusal{
		{"", api.ErrForm, 0},
		{"a", api.ErrForm, 1},
		{"a.", api.ErrForm, 2},
		{"a..b@c", api.ErrForm, 2},
		{".@c", api.ErrForm, 0},
		{"@", api.ErrForm, 0},
		{"a@", api.ErrForm, 2},
		{"a@b.", api.ErrForm, 4},
		{"a@.b", api.ErrForm, 2},
		{"a@b@c", api.ErrForm, 3},
		{"a@b ", api.ErrForm, 3},
		{" a@b", api.ErrForm, 0},
		{"a@b\r\n", api.ErrForm, 3},
		{"a\"b\"@c", api.ErrForm, 1},
		{"a.\"b\"@c", api.ErrForm, 2},
		{"\"", api.ErrForm, 1},
		{"\"a\"", api.ErrForm, 3},
		{"\"a\".b@c", api.ErrForm, 3},
		{"\"a\"\"b\"@c", api.ErrForm, 3},
		{"\"\\", api.ErrForm, 2},
		{"\"\\\x1f\"@c", api.ErrForm, 2},
		{"\"\\\x7f\"@c", api.ErrForm, 2},
		{"\"\\\"@c", api.ErrForm, 5},
		{"a@\"b\"", api.ErrForm, 2},
		{"\xff@c", api.ErrForm, 0},
		{"a@\xc3\xa4", api.ErrForm, 2},
		{"<a@b>", api.ErrForm, 0},
	})
}

func TestA2Dashes(t *testing.T) {
	expectRefusals(t, "A2", []refusal{
		{"a@-", api.ErrForm, 2},
		{"a@-b", api.ErrForm, 2},
		{"a@b-", api.ErrForm, 4},
		{"a@b--", api.ErrForm, 5},
		{"a@b-.c", api.ErrForm, 4},
		{"a@b--.c", api.ErrForm, 5},
		{"a@b-_", api.ErrForm, 4},
		{"a@b.-c", api.ErrForm, 4},
		{"a@b.c-", api.ErrForm, 6},
		{"a@b-.-c", api.ErrForm, 4},
	})
}

func TestA2Bounds(t *testing.T) {
	expectAddress(t, "A2", letters(64)+"@c", api.Address{Local: letters(64), Domain: "c"})
	expectAddress(t, "A2", "a@"+letters(63), api.Address{Local: "a", Domain: letters(63)})
	expectAddress(t, "A2", "a@b."+letters(63)+".c", api.Address{Local: "a", Domain: "b." + letters(63) + ".c"})
	expectAddress(t, "A2", "a@"+domainOf(200)[:199]+"y", api.Address{Local: "a", Domain: domainOf(200)[:199] + "y"})
	// 64 chars of two bytes each stand for 64 bytes; with a domain of 169 that is a text of just 300.
	slashes := strings.Repeat("\\\\", 64)
	text := "\"" + slashes + "\"@" + domainOf(169)
	if len(text) != 300 {
		t.Fatalf("a text of %d bytes", len(text))
	}
	expectAddress(t, "A2", text, api.Address{Local: slashes[:64], Domain: domainOf(169)})
	expectRefusals(t, "A2", []refusal{
		{text + "x", api.ErrLong, 0},
		{letters(301), api.ErrLong, 0},
		{letters(300), api.ErrForm, 300},
		{strings.Repeat("\xff", 301), api.ErrLong, 0},
		{strings.Repeat("\xff", 300), api.ErrForm, 0},
		{letters(65) + "@c", api.ErrRange, 0},
		{letters(32) + "." + letters(32) + "@c", api.ErrRange, 0},
		{"\"" + letters(65) + "\"@c", api.ErrRange, 0},
		{"\"" + slashes + "a\"@c", api.ErrRange, 0},
		{"a@" + letters(64), api.ErrRange, 0},
		{"a@b." + letters(64) + ".c", api.ErrRange, 0},
		{"a@" + letters(64) + ".c", api.ErrRange, 0},
		{"a@" + domainOf(201), api.ErrRange, 0},
		{"a@" + domainOf(298), api.ErrRange, 0},
		// a fault of form goes ahead of a bound, wherever it stands
		{letters(65), api.ErrForm, 65},
		{letters(65) + "@c-", api.ErrForm, 68},
		{"a@" + letters(64) + "-", api.ErrForm, 67},
		{"a@" + domainOf(201) + ".", api.ErrForm, 204},
	})
}

// The place of a fault is how many bytes could still have become an address.
func TestA2AllShortTexts(t *testing.T) {
	whole := regexp.MustCompile("^(?:[a-z0-9_-]+(?:\\.[a-z0-9_-]+)*|\"(?:[ !#-[\\]-~]|\\\\[ -~])*\")@[a-z0-9](?:[a-z0-9-]*[a-z0-9])?(?:\\.[a-z0-9](?:[a-z0-9-]*[a-z0-9])?)*$")
	known := map[string]bool{}
	viable := func(s string) bool {
		answer, ok := known[s]
		for _, end := range []string{"", "a", "@a", "a@a", "\"@a", "a\"@a"} {
			if ok {
				break
			}
			answer = answer || whole.MatchString(s+end)
		}
		known[s] = answer
		return answer
	}
	var check func(s string, depth int)
	check = func(s string, depth int) {
		_, e, at := Parse(s)
		want, wantAt := api.OK, 0
		if !whole.MatchString(s) {
			want = api.ErrForm
			for wantAt < len(s) && viable(s[:wantAt+1]) {
				wantAt++
			}
		}
		if e != want || at != wantAt {
			t.Errorf("A2: Parse(%q) = %d, %d, want %d, %d", s, e, at, want, wantAt)
		}
		for _, c := range []string{"a", "-", ".", "@", "\"", "\\", " ", "_", "\x1f"} {
			if depth > 0 && !t.Failed() {
				check(s+c, depth-1)
			}
		}
	}
	check("", 5)
	check("a@", 4)
	check("\"a\"@", 3)
}

func TestA3Texts(t *testing.T) {
	for want, a := range map[string]api.Address{
		"a@b":                           {Local: "a", Domain: "b"},
		"Ann.Lee@x-1.org":               {Local: "Ann.Lee", Domain: "x-1.org"},
		"!#$%&'*+-/=?^_`{|}~@c":         {Local: "!#$%&'*+-/=?^_`{|}~", Domain: "c"},
		"\"\"@c":                        {Domain: "c"},
		"\".\"@c":                       {Local: ".", Domain: "c"},
		"\"a.\"@c":                      {Local: "a.", Domain: "c"},
		"\".a\"@c":                      {Local: ".a", Domain: "c"},
		"\"a..b\"@c":                    {Local: "a..b", Domain: "c"},
		"\"a b\"@c":                     {Local: "a b", Domain: "c"},
		"\"a@b\"@c":                     {Local: "a@b", Domain: "c"},
		"\"\\\"\\\\\"@c":                {Local: "\"\\", Domain: "c"},
		"\"\\\"a\\\"\"@c":               {Local: "\"a\"", Domain: "c"},
		"\"(),:;<>[]~\"@c":              {Local: "(),:;<>[]~", Domain: "c"},
		letters(64) + "@" + letters(63): {Local: letters(64), Domain: letters(63)},
	} {
		if s, ok := Print(a); s != want || !ok {
			t.Errorf("A3: Print(%q) = %q, %t, want %q", a, s, ok, want)
		}
	}
}

func TestA3NoText(t *testing.T) {
	for _, a := range []api.Address{
		{},
		{Local: "a"},
		{Local: "a", Domain: "B"},
		{Local: "a", Domain: "b."},
		{Local: "a", Domain: "b@c"},
		{Local: "a", Domain: "b-"},
		{Local: "a", Domain: "-b"},
		{Local: "a", Domain: "b..c"},
		{Local: "a\x1f", Domain: "b"},
		{Local: "a\x7f", Domain: "b"},
		{Local: "\xc3\xa4", Domain: "b"},
		{Local: "a", Domain: "\xc3\xa4"},
		{Local: letters(65), Domain: "b"},
		{Local: "a", Domain: letters(64)},
		{Local: "a", Domain: domainOf(201)},
		{Local: letters(1 << 20), Domain: letters(1 << 20)},
	} {
		if s, ok := Print(a); s != "" || ok {
			t.Errorf("A3: Print(%q) = %q, %t, want nothing", a, s, ok)
		}
	}
}

// Both parts keep to their bounds, but the shortest text has one byte more than Parse reads.
func TestA3TextTooLong(t *testing.T) {
	local := strings.Repeat("\"", 64)
	if s, ok := Print(api.Address{Local: local, Domain: domainOf(169)}); !ok || len(s) != 300 {
		t.Errorf("A3: a text of 300 bytes: %q, %t", s, ok)
	}
	if s, ok := Print(api.Address{Local: local, Domain: domainOf(169)[:168] + "yy"}); ok || s != "" {
		t.Errorf("A3: a text of 301 bytes: %q, %t", s, ok)
	}
}

func TestA3EveryByteComesBack(t *testing.T) {
	for n := range 256 {
		a := api.Address{Local: "x" + string([]byte{byte(n)}) + "y", Domain: "c"}
		s, ok := Print(a)
		if want := mayStand("slash", byte(n)); ok != want {
			t.Errorf("A3: Print(%q) = %q, %t, want %t", a, s, ok, want)
		}
		if !ok {
			continue
		}
		expectAddress(t, "A3", s, a)
		plain := mayStand("atom", byte(n)) || n == '.'
		if strings.HasPrefix(s, "\"") == plain {
			t.Errorf("A3: quotes of Print(%q) = %q", a, s)
		}
	}
}
