package talk

// reply is what a line is answered by.
type reply int

const (
	none reply = iota
	bye
	fine
	perhaps
	goOn
	later
	enough
	what
	how
	when
	who
	much
	bad
)

var replies = [...]string{
	none:    "",
	bye:     "221 bye\r\n",
	fine:    "250 ok\r\n",
	perhaps: "252 perhaps\r\n",
	goOn:    "354 go\r\n",
	later:   "451 later\r\n",
	enough:  "452 enough\r\n",
	what:    "500 what\r\n",
	how:     "501 how\r\n",
	when:    "503 when\r\n",
	who:     "550 who\r\n",
	much:    "552 much\r\n",
	bad:     "554 bad\r\n",
}
