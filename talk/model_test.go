package talk

import (
	"fmt"
	"math/rand"
	"regexp"
	"strings"
	"testing"

	"post/addr"
	"post/api"
	"post/wire"
)

// model plays a talk by the words of D2 to D5, line by line, at the host "here" with the users ann and bob.
type model struct {
	told    string // all replies, and the mails
	known   bool
	mail    *api.Mail
	data    []string // nil: no data is read
	bad     bool
	over    bool
	answers []bool // of Stored
}

func (m *model) reply(words string) { m.told += words + crlf }

var (
	mailFrom = regexp.MustCompile(`(?s)^[Ff][Rr][Oo][Mm]:<(.*)>$`)
	rcptTo   = regexp.MustCompile(`(?s)^[Tt][Oo]:<(.*)>$`)
)

func (m *model) line(l api.Line) {
	switch {
	case m.over:
	case m.data == nil:
		m.command(l)
	case l.Text != ".":
		m.data = append(m.data, l.Text)
		m.bad = m.bad || l.Bad != 0
	default:
		m.end()
	}
}

func (m *model) end() {
	m.mail.Data = wire.Plain(m.data[1:])
	switch {
	case m.bad:
		m.reply("554 bad")
	case len(m.mail.Data) > 2000:
		m.reply("552 much")
	default:
		m.told += fmt.Sprintf("%q\n", *m.mail)
		if m.answers[0] {
			m.reply("250 ok")
		} else {
			m.reply("451 later")
		}
		m.answers = append(m.answers[1:], m.answers[0])
	}
	m.mail, m.data, m.bad = nil, nil, false
}

func (m *model) command(l api.Line) {
	word, rest, blank := strings.Cut(l.Text, " ")
	word = strings.ToUpper(word)
	bare := word == "RSET" || word == "DATA" || word == "QUIT"
	switch {
	case l.Bad != 0 || len(l.Text) > 510 || !strings.Contains("|HELO|EHLO|NOOP|VRFY|RSET|DATA|QUIT|MAIL|RCPT|", "|"+word+"|"):
		m.reply("500 what")
	case bare && blank:
		m.reply("501 how")
	case word == "HELO" || word == "EHLO":
		if rest == "" {
			m.reply("501 how")
			return
		}
		m.known, m.mail = true, nil
		m.reply("250 ok")
	case word == "NOOP":
		m.reply("250 ok")
	case word == "VRFY":
		m.reply("252 perhaps")
	case word == "RSET":
		m.mail = nil
		m.reply("250 ok")
	case word == "QUIT":
		m.over = true
		m.reply("221 bye")
	case word == "MAIL":
		m.from(rest)
	case word == "RCPT":
		m.to(rest)
	case m.mail == nil || len(m.mail.To) == 0:
		m.reply("503 when")
	default:
		m.data = []string{"the line of DATA"}
		m.reply("354 go")
	}
}

func (m *model) from(rest string) {
	if !m.known || m.mail != nil {
		m.reply("503 when")
		return
	}
	found := mailFrom.FindStringSubmatch(rest)
	if found == nil {
		m.reply("501 how")
		return
	}
	from, e, _ := addr.Parse(found[1])
	if found[1] != "" && e != api.OK {
		m.reply("501 how")
		return
	}
	m.mail = &api.Mail{From: from}
	m.reply("250 ok")
}

func (m *model) to(rest string) {
	if m.mail == nil {
		m.reply("503 when")
		return
	}
	found := rcptTo.FindStringSubmatch(rest)
	if found == nil {
		m.reply("501 how")
		return
	}
	to, e, _ := addr.Parse(found[1])
	if e != api.OK {
		m.reply("501 how")
		return
	}
	if to.Domain == "here" && to.Local != "ann" && to.Local != "bob" {
		m.reply("550 who")
		return
	}
	for _, a := range m.mail.To {
		if a == to {
			m.reply("250 ok")
			return
		}
	}
	if len(m.mail.To) == 5 {
		m.reply("452 enough")
		return
	}
	m.mail.To = append(m.mail.To, to)
	m.reply("250 ok")
}

// played feeds the pieces; a mail waits while so many pieces come, and is stored as answers say.
func played(pieces []string, patience int, answers []bool) string {
	x := newTalk()
	told, waited, waits := "", 0, false
	take := func(s string, m api.Mail, full bool) {
		told += s
		if full {
			told += fmt.Sprintf("%q\n", m)
			waits, waited = true, 0
		}
	}
	stored := func() {
		waits = false
		ok := answers[0]
		answers = append(answers[1:len(answers):len(answers)], ok)
		take(x.Stored(ok))
	}
	for _, s := range pieces {
		for waits && waited >= patience {
			stored()
		}
		waited++
		take(x.Feed(s))
	}
	for waits {
		stored()
	}
	return told
}

func cutAnyhow(r *rand.Rand, s string) []string {
	var pieces []string
	most := 1 + r.Intn(40)
	for s != "" {
		n := min(1+r.Intn(most), len(s))
		pieces = append(pieces, s[:n])
		s = s[n:]
	}
	return pieces
}

func anyLine(r *rand.Rand) string {
	lines := []string{"HELO x", "EHLO", "helo  ", "NOOP", "VRFY x", "RSET", "RSET ", "MAIL FROM:<>", "MAIL FROM:<a@B>", "mail from:<c@d>", "MAIL FROM:<c@d", "RCPT TO:<ann@here>", "RCPT TO:<bob@Here>", "rcpt to:<zed@here>",
		"RCPT TO:<a@1>", "RCPT TO:<a@2>", "RCPT TO:<a@3>", "RCPT TO:<a@4>", `RCPT TO:<"a>b"@c>`, "RCPT TO:<>", "DATA", "DATA", "DATA", "data ", ".", ".", ".", "..", ".x", "", "hi", "a\nb", "a\r", "\n", "FOO", "QUIT x", " QUIT",
		strings.Repeat("y", 400), strings.Repeat("z", 1000), strings.Repeat("z", 1001), "NOOP " + strings.Repeat("x", 505), "NOOP " + strings.Repeat("x", 506)}
	return lines[r.Intn(len(lines))]
}

// anyStream is lines at random, with runs in which a mail is like to get full.
func anyStream(r *rand.Rand) string {
	var b strings.Builder
	for range 60 {
		if r.Intn(4) == 0 {
			b.WriteString("HELO x\r\nMAIL FROM:<a@b>\r\nRCPT TO:<ann@here>\r\n" + anyLine(r) + "\r\nDATA\r\nhi\r\n" + strings.Repeat(anyLine(r)+crlf, r.Intn(4)) + ".\r\n")
		} else {
			b.WriteString(anyLine(r) + crlf)
		}
		if r.Intn(300) == 0 {
			b.WriteString("QUIT\r\n")
		}
	}
	return b.String()
}

func TestD2ToD5AgainstAModel(t *testing.T) {
	mails, quits := 0, 0
	for seed := range int64(400) {
		r := rand.New(rand.NewSource(seed))
		stream := anyStream(r)
		answers := []bool{true, r.Intn(2) == 0, r.Intn(2) == 0}
		m := &model{answers: append([]bool{}, answers...)}
		for _, l := range wire.New(1000).Feed(stream) {
			m.line(l)
		}
		if m.over {
			quits++
		}
		for _, pieces := range [][]string{{stream}, cutAnyhow(r, stream), cutAnyhow(r, stream)} {
			for _, patience := range []int{0, 1, 3, len(pieces)} {
				if got := played(pieces, patience, append([]bool{}, answers...)); got != m.told {
					t.Fatalf("D2: seed %d, %d pieces, patience %d: told\n%s\nwant\n%s", seed, len(pieces), patience, got, m.told)
				}
			}
		}
		mails += strings.Count(m.told, "}\n")
	}
	if mails < 500 || quits < 20 {
		t.Errorf("the streams have too few mails (%d) and QUITs (%d)", mails, quits)
	}
}
