package talk

import (
	"reflect"
	"slices"
	"strings"
	"testing"

	"post/api"
)

const crlf = "\r\n"

func address(local string, domain string) api.Address {
	return api.Address{Local: local, Domain: domain}
}

func newTalk() *Talk {
	return New("here", []string{"ann", "bob"})
}

// expect feeds s, at which no mail is full, and holds the replies (without their CR LF) against what they should be.
func expect(t *testing.T, promise string, x *Talk, s string, want ...string) {
	t.Helper()
	replies, m, full := x.Feed(s)
	expectReplies(t, promise+": "+clipped(s), replies, want...)
	if full || !reflect.DeepEqual(m, api.Mail{}) {
		t.Errorf("%s: %s: a mail %+v, %t", promise, clipped(s), m, full)
	}
}

func expectReplies(t *testing.T, promise string, got string, want ...string) {
	t.Helper()
	whole := ""
	for _, w := range want {
		whole += w + crlf
	}
	if got != whole {
		t.Errorf("%s: replies %q, want %q", promise, got, whole)
	}
}

func clipped(s string) string {
	if len(s) > 60 {
		return s[:60] + ".."
	}
	return s
}

// expectEach says one line at a time: each is the line, a "|", and its reply.
func expectEach(t *testing.T, promise string, x *Talk, lines ...string) {
	t.Helper()
	for _, l := range lines {
		cut := strings.LastIndex(l, "|")
		expect(t, promise, x, l[:cut]+crlf, l[cut+1:])
	}
}

func expectMail(t *testing.T, promise string, m api.Mail, full bool, want api.Mail) {
	t.Helper()
	if !full || !reflect.DeepEqual(m, want) {
		t.Errorf("%s: a mail %+v, %t, want %+v", promise, m, full, want)
	}
}

// toData makes a talk that is about to read a mail's data, from a@b to ann@here.
func toData(t *testing.T) *Talk {
	t.Helper()
	x := newTalk()
	expectEach(t, "D5", x, "HELO x|250 ok", "MAIL FROM:<a@b>|250 ok", "RCPT TO:<ann@here>|250 ok", "DATA|354 go")
	return x
}

// waiting makes a talk in which a mail waits.
func waiting(t *testing.T, behind string) *Talk {
	t.Helper()
	x := toData(t)
	s, m, full := x.Feed("hi\r\n.\r\n" + behind)
	expectReplies(t, "D2", s)
	expectMail(t, "D2", m, full, api.Mail{From: address("a", "b"), To: []api.Address{address("ann", "here")}, Data: "hi\r\n"})
	return x
}

func TestD1Greet(t *testing.T) {
	for name, want := range map[string]string{"Here": "220 here\r\n", "": "220 \r\n", "A-Z.Z9": "220 a-z.z9\r\n", "\u00c4\u212a\xffX\r\n": "220 \u00c4\u212a\xffx\r\n\r\n"} {
		x := New(name, nil)
		if got := x.Greet(); got != want {
			t.Errorf("D1: New(%q) greets by %q, want %q", name, got, want)
		}
		x.Feed("QUIT\r\n")
		if got := x.Greet(); got != want {
			t.Errorf("D1: New(%q) greets by %q later, want %q", name, got, want)
		}
	}
}

func TestD1UsersAreNotKept(t *testing.T) {
	users := []string{"ann", "bob", "ann"}
	x := New("here", users)
	if !slices.Equal(users, []string{"ann", "bob", "ann"}) {
		t.Errorf("G4: New made %q of its users", users)
	}
	users[1] = "zed"
	expectEach(t, "D1", x, "HELO x|250 ok", "MAIL FROM:<>|250 ok", "RCPT TO:<bob@here>|250 ok", "RCPT TO:<zed@here>|550 who")
}

func TestD1TwoShareNothing(t *testing.T) {
	one, two := New("one", []string{"a"}), New("two", []string{"b"})
	expectEach(t, "D1", one, "HELO x|250 ok", "MAIL FROM:<>|250 ok", "RCPT TO:<a@one>|250 ok")
	expect(t, "D1", one, "NO")
	expectEach(t, "D1", two, "MAIL FROM:<>|503 when", "HELO y|250 ok", "RCPT TO:<b@two>|503 when", "MAIL FROM:<>|250 ok", "DATA|503 when", "QUIT|221 bye")
	expectEach(t, "D1", one, "OP|250 ok", "RCPT TO:<b@two>|250 ok", "DATA|354 go")
}

func TestD2Lines(t *testing.T) {
	x := newTalk()
	expect(t, "D2", x, "")
	expect(t, "D2", x, "NOOP")
	expect(t, "D2", x, "\r")
	expect(t, "D2", x, "\nVRFY\r\nNOOP\r\nHE", "250 ok", "252 perhaps", "250 ok")
	expect(t, "D2", x, "LO")
	expect(t, "D2", x, " x\r\n", "250 ok")
}

func TestD2StoredWithoutAMail(t *testing.T) {
	for _, x := range []*Talk{newTalk(), toData(t)} {
		for _, ok := range []bool{true, false} {
			if s, m, full := x.Stored(ok); s != "" || full || !reflect.DeepEqual(m, api.Mail{}) {
				t.Errorf("D2: Stored(%t) without a mail: %q, %+v, %t", ok, s, m, full)
			}
		}
	}
	x := toData(t)
	x.Stored(true)
	s, _, full := x.Feed(".\r\n")
	expectReplies(t, "D2", s)
	if !full {
		t.Error("D2: no mail is full behind a Stored that was too early")
	}
}

func TestD2StoredAnswersTheMail(t *testing.T) {
	for ok, want := range map[bool]string{true: "250 ok", false: "451 later"} {
		x := waiting(t, "")
		s, m, full := x.Stored(ok)
		expectReplies(t, "D2", s, want)
		if full || !reflect.DeepEqual(m, api.Mail{}) {
			t.Errorf("D2: Stored(%t): %+v, %t", ok, m, full)
		}
		for _, again := range []bool{true, false} {
			if s, _, full := x.Stored(again); s != "" || full {
				t.Errorf("D2: Stored once more: %q, %t", s, full)
			}
		}
		expectEach(t, "D2", x, "RCPT TO:<ann@here>|503 when", "MAIL FROM:<>|250 ok")
	}
}

func TestD2WhatComesMeanwhileWaits(t *testing.T) {
	x := waiting(t, "NOOP\r\nVR")
	expect(t, "D2", x, "FY\r\n")
	expect(t, "D2", x, "")
	expect(t, "D2", x, "FOO\r\nNO")
	s, _, full := x.Stored(false)
	expectReplies(t, "D2", s, "451 later", "250 ok", "252 perhaps", "500 what")
	if full {
		t.Error("D2: Stored tells a mail")
	}
	expect(t, "D2", x, "OP\r\n", "250 ok")
}

func TestD2SeveralMailsAtOnce(t *testing.T) {
	mail := func(data string) string {
		return "MAIL FROM:<>\r\nRCPT TO:<bob@here>\r\nDATA\r\n" + data + ".\r\n"
	}
	x := newTalk()
	s, m, full := x.Feed("HELO x\r\n" + mail("1\r\n") + mail("2\r\n") + "NOOP\r\n" + mail("")[:4])
	expectReplies(t, "D2", s, "250 ok", "250 ok", "250 ok", "354 go")
	expectMail(t, "D2", m, full, api.Mail{To: []api.Address{address("bob", "here")}, Data: "1\r\n"})
	expect(t, "D2", x, mail("")[4:])
	s, m, full = x.Stored(true)
	expectReplies(t, "D2", s, "250 ok", "250 ok", "250 ok", "354 go")
	expectMail(t, "D2", m, full, api.Mail{To: []api.Address{address("bob", "here")}, Data: "2\r\n"})
	s, m, full = x.Stored(false)
	expectReplies(t, "D2", s, "451 later", "250 ok", "250 ok", "250 ok", "354 go")
	expectMail(t, "D2", m, full, api.Mail{To: []api.Address{address("bob", "here")}, Data: ""})
	s, _, full = x.Stored(true)
	expectReplies(t, "D2", s, "250 ok")
	if full {
		t.Error("D2: one mail too many")
	}
}

func TestD2AMailIsNewMemory(t *testing.T) {
	x := toData(t)
	_, m, _ := x.Feed(".\r\n")
	m.To[0] = address("z", "z")
	x.Stored(true)
	x.Feed("MAIL FROM:<>\r\nRCPT TO:<bob@here>\r\nDATA\r\n")
	_, other, full := x.Feed(".\r\n")
	expectMail(t, "G4", other, full, api.Mail{To: []api.Address{address("bob", "here")}})
	if m.To[0] != address("z", "z") {
		t.Errorf("G4: an answer was changed: %+v", m)
	}
}

func TestD3Words(t *testing.T) {
	expectEach(t, "D3", newTalk(), "noop|250 ok", "NoOp|250 ok", "NOOP |250 ok", "NOOP x y|250 ok", "vrfy|252 perhaps", "Vrfy ann@here|252 perhaps", "VRFY |252 perhaps",
		"helo x|250 ok", "eHLo y|250 ok", "rset|250 ok", "mAIl FROM:<>|250 ok", "rcpT TO:<a@b>|250 ok", "data|354 go")
	expectEach(t, "D3", newTalk(), "quit|221 bye")
	expectEach(t, "D3", newTalk(), "|500 what", " |500 what", " NOOP|500 what", "NOOPS|500 what", "NOO|500 what", "NOOP\t|500 what", "NOOP\tx|500 what", "FOO|500 what", "HELP|500 what",
		"R\u017fET|500 what", "MA\u0130L FROM:<>|500 what", "RSET\x00|500 what", "NOOP.|500 what", "\xff|500 what", ".|500 what", "MAIL:|500 what", "NOOP;NOOP|500 what", "-NOOP|500 what")
}

func TestD3BadLines(t *testing.T) {
	expect(t, "D3", newTalk(), "NOOP \r\r\nNOOP\n\r\nNO\rOP\r\n\nNOOP\r\nNOOP a\nNOOP\r\n", "500 what", "500 what", "500 what", "500 what", "500 what")
	expect(t, "D3", newTalk(), "NOOP "+strings.Repeat("x", 996)+"\r\n", "500 what")
	expect(t, "D3", newTalk(), "NOOP "+strings.Repeat("x", 9996)+"\r\nNOOP\r\n", "500 what", "250 ok")
	x := newTalk()
	expect(t, "D3", x, "QUIT\n\r\nQUIT\r\r\n", "500 what", "500 what")
	expectEach(t, "D3", x, "NOOP|250 ok")
}

func TestD3LengthOfACommand(t *testing.T) {
	for size, want := range map[int]string{509: "250 ok", 510: "250 ok", 511: "500 what", 999: "500 what", 1000: "500 what", 1001: "500 what"} {
		expect(t, "D3", newTalk(), "NOOP "+strings.Repeat("x", size-5)+crlf, want)
		expect(t, "D3", newTalk(), "HELO "+strings.Repeat(" ", size-5)+crlf, want)
	}
	x := newTalk()
	expectEach(t, "D3", x, "HELO x|250 ok", "MAIL FROM:<>|250 ok")
	expect(t, "D3", x, "HELO "+strings.Repeat("x", 506)+crlf, "500 what")
	expectEach(t, "D3", x, "MAIL FROM:<>|503 when")
}

func TestD3Hello(t *testing.T) {
	for _, word := range []string{"HELO", "EHLO"} {
		x := newTalk()
		expectEach(t, "D3", x, word+"|501 how", word+" |501 how", "MAIL FROM:<>|503 when", word+"  |250 ok", "MAIL FROM:<>|250 ok")
		expectEach(t, "D3", x, "RCPT TO:<ann@here>|250 ok", word+"|501 how", "DATA|354 go")
		x = newTalk()
		expectEach(t, "D3", x, word+" x|250 ok", "MAIL FROM:<>|250 ok", "RCPT TO:<ann@here>|250 ok", word+" y|250 ok", "DATA|503 when", "RCPT TO:<ann@here>|503 when", "MAIL FROM:<>|250 ok", "DATA|503 when")
	}
}

func TestD3NothingElseChanges(t *testing.T) {
	x := newTalk()
	expectEach(t, "D3", x, "NOOP|250 ok", "VRFY x|252 perhaps", "MAIL FROM:<>|503 when", "HELO x|250 ok", "MAIL FROM:<c@d>|250 ok", "RCPT TO:<bob@here>|250 ok",
		"NOOP|250 ok", "VRFY x|252 perhaps", "FOO|500 what", "RSET |501 how", "RSET x|501 how", "DATA |501 how", "DATA x|501 how", "QUIT |501 how", "QUIT x|501 how", "MAIL FROM:<>|503 when", "RCPT TO:<>|501 how", "RCPT TO:<zed@here>|550 who", "DATA|354 go")
	_, m, full := x.Feed(".\r\n")
	expectMail(t, "D3", m, full, api.Mail{From: address("c", "d"), To: []api.Address{address("bob", "here")}})
}

func TestD3Reset(t *testing.T) {
	x := newTalk()
	expectEach(t, "D3", x, "RSET|250 ok", "MAIL FROM:<>|503 when", "HELO x|250 ok", "RSET|250 ok", "MAIL FROM:<>|250 ok", "RCPT TO:<ann@here>|250 ok", "RSET|250 ok", "RCPT TO:<ann@here>|503 when", "DATA|503 when", "MAIL FROM:<>|250 ok", "DATA|503 when")
}

func TestD3ABlankIsToldFirst(t *testing.T) {
	expectEach(t, "D3", newTalk(), "DATA |501 how", "DATA x|501 how", "RSET |501 how", "QUIT |501 how", "DATA|503 when")
}

func TestD3Quit(t *testing.T) {
	x := newTalk()
	expect(t, "D3", x, "NOOP\r\nQUIT\r\nNOOP\r\nHELO x\r\nMAIL FROM:<>\r\nRCPT TO:<ann@here>\r\nDATA\r\n.\r\n", "250 ok", "221 bye")
	for _, s := range []string{"", "NOOP\r\n", "QUIT\r\n", "HELO x\r\nMAIL FROM:<>\r\nRCPT TO:<ann@here>\r\nDATA\r\nhi\r\n.\r\n"} {
		expect(t, "D3", x, s)
	}
	if s, _, full := x.Stored(true); s != "" || full {
		t.Errorf("D3: Stored behind QUIT: %q, %t", s, full)
	}
}

func TestD3QuitBehindAMail(t *testing.T) {
	x := waiting(t, "QUIT\r\nNOOP\r\n")
	expect(t, "D3", x, "NOOP\r\nNOOP")
	s, _, full := x.Stored(true)
	expectReplies(t, "D3", s, "250 ok", "221 bye")
	if full {
		t.Error("D3: a mail behind QUIT")
	}
	expect(t, "D3", x, "\r\nNOOP\r\n")
	if s, _, full := x.Stored(true); s != "" || full {
		t.Errorf("D3: Stored behind QUIT: %q, %t", s, full)
	}
}

func TestD4Mail(t *testing.T) {
	long := strings.Repeat("x", 63)
	for _, rest := range []string{"", " ", " FROM:", " FROM:<", " FROM:>", " FROM:<>>", " FROM:<> ", " FROM:<a@b", " FROM:a@b", " FROM: <a@b>", "  FROM:<a@b>", " FROM:<a@b>>", " FROM:<<a@b>", " FROM:< >",
		" FROM:<a>", " FROM:<a@>", " FROM:<@b>", " FROM:<a@b.>", " FROM:<a@b-> ", " FROM:<a@b> SIZE=3", " TO:<a@b>", " FRO\u039c:<a@b>", " FROM:<a@" + long + "x>", " FROM:<\"a@b>", " FROM:<a b@c>"} {
		x := newTalk()
		expectEach(t, "D4", x, "HELO x|250 ok", "MAIL"+rest+"|501 how", "RCPT TO:<ann@here>|503 when")
	}
	for text, from := range map[string]api.Address{"FROM:<>": {}, "from:<a@B>": address("a", "b"), "fRoM:<A.b@c.D>": address("A.b", "c.d"), `FROM:<"a >\"b"@c>`: address(`a >"b`, "c"),
		"FROM:<ann@here>": address("ann", "here"), "FROM:<zed@here>": address("zed", "here"), "FROM:<a@" + long + ">": address("a", long), `FROM:<""@c>`: address("", "c")} {
		x := newTalk()
		expectEach(t, "D4", x, "HELO x|250 ok", "MAIL "+text+"|250 ok", "MAIL "+text+"|503 when", "MAIL|503 when", "RCPT TO:<c@d>|250 ok", "DATA|354 go")
		_, m, full := x.Feed(".\r\n")
		expectMail(t, "D4", m, full, api.Mail{From: from, To: []api.Address{address("c", "d")}})
	}
}

func TestD4MailNeedsHello(t *testing.T) {
	expectEach(t, "D4", newTalk(), "MAIL FROM:<>|503 when", "MAIL|503 when", "MAIL FROM:<a|503 when", "RCPT TO:<ann@here>|503 when", "RCPT|503 when")
}

func TestD4Recipients(t *testing.T) {
	for _, rest := range []string{"", " ", " TO:", " TO:<", " TO:>", " TO:<>", " TO:<a@b", " TO:a@b", " TO: <a@b>", "  TO:<a@b>", " TO:<a@b>>", " TO:<<a@b>", " TO:<a@b> ", " TO:<a>", " TO:<a@>", " TO:<@here>", " FROM:<a@b>", " T\u00d6:<a@b>", " TO:<ann@here.>", " TO<a@b>"} {
		x := newTalk()
		expectEach(t, "D4", x, "HELO x|250 ok", "MAIL FROM:<>|250 ok", "RCPT"+rest+"|501 how", "DATA|503 when")
	}
	x := New("HERE", []string{"ann", "bob", `b "c`})
	expectEach(t, "D4", x, "HELO x|250 ok", "MAIL FROM:<>|250 ok", "RCPT TO:<zed@here>|550 who", "RCPT TO:<zed@HERE>|550 who", "RCPT TO:<Ann@here>|550 who", `RCPT TO:<""@here>|550 who`, "DATA|503 when",
		`RCPT to:<"b \"c"@Here>|250 ok`, "RCPT tO:<bob@here>|250 ok", "RCPT TO:<zed@far.net>|250 ok", `RCPT TO:<"b>"@far.net>|250 ok`, "DATA|354 go")
	_, m, full := x.Feed(".\r\n")
	expectMail(t, "D4", m, full, api.Mail{To: []api.Address{address(`b "c`, "here"), address("bob", "here"), address("zed", "far.net"), address("b>", "far.net")}})
}

func TestD4ForAtMostFive(t *testing.T) {
	x := newTalk()
	expectEach(t, "D4", x, "HELO x|250 ok", "MAIL FROM:<>|250 ok", "RCPT TO:<a@5>|250 ok", "RCPT TO:<a@4>|250 ok", "RCPT TO:<a@5>|250 ok", `RCPT TO:<"a"@4>|250 ok`, "RCPT TO:<A@4>|250 ok", "RCPT TO:<ann@here>|250 ok",
		"RCPT TO:<a@1>|250 ok", "RCPT TO:<a@0>|452 enough", "RCPT TO:<bob@here>|452 enough", "RCPT TO:<zed@here>|550 who", "RCPT TO:<zed@>|501 how", "RCPT TO:<ann@HERE>|250 ok", "RCPT TO:<a@1>|250 ok", "RCPT TO:<a@0>|452 enough", "DATA|354 go")
	_, m, full := x.Feed(".\r\n")
	five := []api.Address{address("a", "5"), address("a", "4"), address("A", "4"), address("ann", "here"), address("a", "1")}
	expectMail(t, "D4", m, full, api.Mail{To: five})
}

func TestD4AHostWithoutUsers(t *testing.T) {
	expectEach(t, "D4", New("h", nil), "HELO x|250 ok", "MAIL FROM:<>|250 ok", "RCPT TO:<a@h>|550 who", "RCPT TO:<a@i>|250 ok")
	expectEach(t, "D4", New("", []string{""}), "HELO x|250 ok", "MAIL FROM:<>|250 ok", "RCPT TO:<a@>|501 how", "RCPT TO:<a@h>|250 ok")
}

func TestD5Data(t *testing.T) {
	for lines, data := range map[string]string{
		"":                                    "",
		"hi\r\n":                              "hi\r\n",
		"..\r\n...\r\n.x\r\n \r\n\r\n":        ".\r\n..\r\nx\r\n \r\n\r\n",
		"QUIT\r\nRSET\r\n. \r\n \r\n":         "QUIT\r\nRSET\r\n \r\n \r\n",
		"\x00\xff\r\n":                        "\x00\xff\r\n",
		strings.Repeat("x", 1000) + "\r\n":    strings.Repeat("x", 1000) + "\r\n",
		strings.Repeat("\r\n", 1000):          strings.Repeat("\r\n", 1000),
		strings.Repeat(".abc\r\n", 2000/5):    strings.Repeat("abc\r\n", 2000/5),
		"." + strings.Repeat("y", 999) + crlf: strings.Repeat("y", 999) + crlf,
	} {
		x := toData(t)
		expect(t, "D5", x, lines)
		s, m, full := x.Feed(".\r\n")
		expectReplies(t, "D5", s)
		expectMail(t, "D5", m, full, api.Mail{From: address("a", "b"), To: []api.Address{address("ann", "here")}, Data: data})
		x.Stored(true)
		expectEach(t, "D5", x, "RCPT TO:<ann@here>|503 when", "DATA|503 when", "MAIL FROM:<>|250 ok", "DATA|503 when")
	}
}

func TestD5Refused(t *testing.T) {
	long, full := strings.Repeat("x", 1001), strings.Repeat("x", 998)+crlf
	for lines, want := range map[string]string{
		long + crlf:                      "554 bad",
		"a\nb\r\n":                       "554 bad",
		".\n\r\n":                        "554 bad",
		".\r\r\n":                        "554 bad",
		"\n.\r\n":                        "554 bad",
		"a\rb\r\nok\r\n":                 "554 bad",
		"ok\r\n" + long + "\r\nok\r\n":   "554 bad",
		full + full + "\r\n":             "552 much",
		full + "x" + full:                "552 much",
		strings.Repeat("\r\n", 1001):     "552 much",
		strings.Repeat(full, 9):          "552 much",
		strings.Repeat(".\r.\r\n", 900):  "554 bad",
		full + full + full + "\r\r\n":    "554 bad",
		"\r\r\n" + full + full + full:    "554 bad",
		long + crlf + full + full + full: "554 bad",
	} {
		x := toData(t)
		expect(t, "D5", x, lines)
		expect(t, "D5", x, ".\r\n", want)
		if s, _, full := x.Stored(true); s != "" || full {
			t.Errorf("D5: Stored behind a mail that was refused: %q, %t", s, full)
		}
		expectEach(t, "D5", x, "DATA|503 when", "RCPT TO:<ann@here>|503 when", "MAIL FROM:<c@d>|250 ok", "RCPT TO:<bob@here>|250 ok", "DATA|354 go")
		_, m, full := x.Feed("new\r\n.\r\n")
		expectMail(t, "D5", m, full, api.Mail{From: address("c", "d"), To: []api.Address{address("bob", "here")}, Data: "new\r\n"})
	}
}

func TestD5Just2000Bytes(t *testing.T) {
	half := strings.Repeat("x", 998) + crlf
	x := toData(t)
	_, m, full := x.Feed(half + "." + half + ".\r\n")
	expectMail(t, "D5", m, full, api.Mail{From: address("a", "b"), To: []api.Address{address("ann", "here")}, Data: half + half})
	x = toData(t)
	expect(t, "D5", x, half+"x"+half+".\r\n", "552 much")
	x = toData(t)
	expect(t, "D5", x, half+".."+half+".\r\n", "552 much")
}

func TestD5DataNeedsAMailThatGoesSomewhere(t *testing.T) {
	expectEach(t, "D5", newTalk(), "DATA|503 when", "HELO x|250 ok", "DATA|503 when", "MAIL FROM:<>|250 ok", "DATA|503 when", "RCPT TO:<zed@here>|550 who", "DATA|503 when", "RCPT TO:<ann@here>|250 ok", "DATA|354 go")
}
